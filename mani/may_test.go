package mani_test

import (
	"fmt"
	"math/rand"
	"slices"
	"strings"
	"testing"

	"wellspring/api"
	"wellspring/mani"
)

// Manifests that are not valid, each by one thing.

// numbersNotValid have a number outside its bounds.
func numbersNotValid() []api.Manifest {
	list := []api.Manifest{{}}
	for _, m := range bare() {
		for _, p := range parts() {
			for _, n := range outside(p.least, p.most) {
				list = append(list, changed(m, func(m *api.Manifest) { *p.of(m) = n }))
			}
		}
	}
	// Parts that are wrong together, whose product may be right.
	for _, p := range []api.Params{
		{}, {K: -4, H: 2, Size: -3}, {K: 12, H: 2, Size: 0}, {K: 17, H: 5, Size: 25}, {K: 1 << 32, H: 1, Size: 1 << 32},
		{K: 24, H: 4, Size: 16}, {K: 384, H: 1, Size: 1}, {K: 1, H: 1, Size: 384},
	} {
		list = append(list, changed(bare()[1], func(m *api.Manifest) { m.P = p }))
		list = append(list, changed(of(long(0, 0)), func(m *api.Manifest) { m.P = p }))
		list = append(list, changed(of(long(96, 8)), func(m *api.Manifest) { m.P = p }))
	}
	return list
}

// drivesNotValid have a drive outside its bounds, or drives that do not ascend.
func drivesNotValid() []api.Manifest {
	list := []api.Manifest{}
	with := func(drives ...int) {
		for _, m := range []api.Manifest{least(), middle(), greatest()} {
			list = append(list, changed(m, func(m *api.Manifest) { m.Drives = drives }))
		}
	}
	for _, drives := range [][]int{{9}, {3, 7, 8, 42, 50}, {0, 63}, greatest().Drives} {
		for i := range drives {
			for _, d := range outside(0, 63) {
				other := slices.Clone(drives)
				other[i] = d
				with(other...)
			}
			for j := range i {
				other := slices.Clone(drives)
				other[i] = drives[j]
				with(other...)
				other[j] = drives[i]
				with(other...)
			}
		}
	}
	with(append(greatest().Drives, 64)...)
	with(append(greatest().Drives, 63)...)
	with(append(greatest().Drives, 0)...)
	with(append([]int{0}, greatest().Drives...)...)
	with(append([]int{-1}, greatest().Drives...)...)
	return list
}

// countsNotValid have too many objects.
func countsNotValid() []api.Manifest {
	list := []api.Manifest{}
	for _, count := range []int{13, 14, 15, 16, 24, 25, 40, 100, 255, 256, 257, 256 + 12, 512, 65536, 65536 + 5} {
		list = append(list, of(entries(count)...))
	}
	return append(list, changed(greatest(), func(m *api.Manifest) {
		m.Objects = append(m.Objects, api.Entry{Name: "zzzzzzzzzzzz", Object: 1})
	}))
}

// namesNotValid have a name that is none, at each place, or names that do not ascend.
func namesNotValid() []api.Manifest {
	list := []api.Manifest{}
	// The names are o000000, o000001 and so on: what follows such a one leaves them ascending.
	for count := 1; count <= 12; count++ {
		for i := range count {
			for _, more := range []string{"-aaaaa", "A", "_", "\x00", "\xff", "\x80", "é", " ", "a ", "-\xe1", strings.Repeat("a", 256)} {
				m := of(entries(count)...)
				m.Objects[i].Name += more
				list = append(list, m)
			}
		}
		m := of(entries(count)...)
		m.Objects[0].Name = ""
		list = append(list, m)
	}
	for c := range 256 {
		for i := range 3 {
			b := []byte("kkk")
			b[i] = byte(c)
			if !isName.Match(b) {
				list = append(list, of(named(string(b))...))
			}
		}
	}
	for i := range 12 {
		for j := range i {
			equal, turned := greatest(), greatest()
			equal.Objects[i].Name = equal.Objects[j].Name
			turned.Objects[i].Name, turned.Objects[j].Name = turned.Objects[j].Name, turned.Objects[i].Name
			list = append(list, equal, turned)
		}
	}
	for _, names := range [][]string{
		{"a", "a"}, {"b", "a"}, {"aa", "a"}, {"b", "aa"}, {"0", "-"}, {"a", "9"}, {"a0", "a-"}, {"a", "b", "a"}, {"a", "b", "b"},
		{"b", "c", "a"}, {"a", "c", "b", "d"}, {"9", "10"}, {"", "a"}, {"a", ""}, {"", ""}, {"", "a", "b"}, {"a", "", "b"}, {"a", "b", ""},
	} {
		list = append(list, of(named(names...)...))
	}
	return list
}

// objectsNotValid have an object's number outside its bounds, at each place, or twice.
func objectsNotValid() []api.Manifest {
	list := []api.Manifest{}
	for _, m := range placed() {
		for i := range m.Objects {
			for _, n := range append(outside(0, m.Next-1), m.Next) {
				list = append(list, changed(m, func(m *api.Manifest) { m.Objects[i].Object = n }))
			}
			for j := range i {
				list = append(list, changed(m, func(m *api.Manifest) { m.Objects[i].Object = m.Objects[j].Object }))
			}
		}
	}
	for _, next := range []int{0, 1, 2, 100, 65536, 16777216} {
		for _, n := range []int{next, next + 1, next + 256, next + 1<<24, next + 1<<32, -1, -next - 1} {
			list = append(list, changed(of(numbered(n)...), func(m *api.Manifest) { m.Next = next }))
		}
	}
	return list
}

// lengthsNotValid have a length outside its bounds, at each place, or of any parameters.
func lengthsNotValid() []api.Manifest {
	list := []api.Manifest{}
	for _, m := range placed() {
		most := 8 * m.P.K * m.P.Size
		for i := range m.Objects {
			for _, n := range outside(0, most) {
				for _, tries := range []int{0, 1, 8, 9} {
					list = append(list, changed(m, func(m *api.Manifest) {
						m.Objects[i].Length, m.Objects[i].Tries = n, long(0, tries).Tries
					}))
				}
			}
		}
	}
	for _, p := range parameters(1) {
		most := 8 * p.K * p.Size
		for _, e := range []api.Entry{long(most+1, 9), long(most+1, 8), long(9*p.K*p.Size, 9), long(-1, 0), long(-1, 1), long(-most, 0)} {
			list = append(list, changed(of(e), func(m *api.Manifest) { m.P = p }))
		}
	}
	return list
}

// triesNotValid have too few or too many tries, or one outside its bounds, at each place.
func triesNotValid() []api.Manifest {
	list := []api.Manifest{}
	for _, m := range append(placed(), middle(), of(long(96, 8))) {
		for i := range m.Objects {
			tries := m.Objects[i].Tries
			with := func(other []int) {
				list = append(list, changed(m, func(m *api.Manifest) { m.Objects[i].Tries = other }))
			}
			with(append(slices.Clone(tries), 0))
			with(append(slices.Clone(tries), 0, 0))
			with(append(slices.Clone(tries), make([]int, 256)...))
			for j := range tries {
				with(tries[:j])
				with(tries[j+1:])
				for _, try := range outside(0, 15) {
					other := slices.Clone(tries)
					other[j] = try
					with(other)
				}
			}
		}
	}
	for _, p := range parameters(7) {
		for _, n := range lengths(p) {
			for count := range 11 {
				if count != blocks(p, n) {
					list = append(list, changed(of(long(n, count)), func(m *api.Manifest) { m.P = p }))
				}
			}
		}
	}
	return list
}

// notValid are all of these.
func notValid() []api.Manifest {
	return slices.Concat(numbersNotValid(), drivesNotValid(), countsNotValid(), namesNotValid(), objectsNotValid(),
		lengthsNotValid(), triesNotValid())
}

// P19.1: May

// checkMay asserts that May says this, as the words of the chapter do.
func checkMay(t *testing.T, m api.Manifest, want bool) {
	t.Helper()
	if isValid(m) != want {
		t.Fatalf("the test itself is wrong: %+v, which should be %v", m, want)
	}
	if got := mani.May(m); got != want {
		t.Fatalf("May(%+v) = %v, want %v", m, got, want)
	}
}

func TestMayOfValid(t *testing.T) {
	for _, m := range valid() {
		checkMay(t, m, true)
	}
}

func TestMayOfEachPartOutside(t *testing.T) {
	for name, list := range map[string][]api.Manifest{
		"numbers": numbersNotValid(), "drives": drivesNotValid(), "count of objects": countsNotValid(), "names": namesNotValid(),
		"numbers of objects": objectsNotValid(), "lengths": lengthsNotValid(), "tries": triesNotValid(),
	} {
		t.Run(name, func(t *testing.T) {
			for _, m := range list {
				checkMay(t, m, false)
			}
		})
	}
}

// Each number about its bounds.
func TestMayOfEachNumber(t *testing.T) {
	for _, m := range bare() {
		for _, p := range parts() {
			for d := -300; d <= 300; d++ {
				for _, n := range []int{p.least + d, p.most + d} {
					checkMay(t, changed(m, func(m *api.Manifest) { *p.of(m) = n }), n >= p.least && n <= p.most)
				}
			}
		}
	}
}

func TestMayOfAllParameters(t *testing.T) {
	for k := -1; k <= 18; k++ {
		for h := -1; h <= 6; h++ {
			for size := -1; size <= 26; size++ {
				p := api.Params{K: k, H: h, Size: size}
				want := k >= 1 && k <= 16 && h >= 1 && h <= 4 && size >= 1 && size <= 24
				checkMay(t, changed(bare()[1], func(m *api.Manifest) { m.P = p }), want)
				checkMay(t, changed(of(long(0, 0)), func(m *api.Manifest) { m.P = p }), want)
			}
		}
	}
}

// lists are all lists of up to so many of some things.
func lists[T any](most int, of ...T) [][]T {
	list, last := [][]T{{}}, [][]T{{}}
	for range most {
		var longer [][]T
		for _, l := range last {
			for _, x := range of {
				longer = append(longer, append(slices.Clone(l), x))
			}
		}
		list, last = append(list, longer...), longer
	}
	return list
}

// ascending reports whether each of a list is greater than the one ahead of it.
func ascending[T int | string](list []T) bool {
	for i := 1; i < len(list); i++ {
		if list[i-1] >= list[i] {
			return false
		}
	}
	return true
}

func TestMayOfAllListsOfDrives(t *testing.T) {
	for _, drives := range lists(5, 0, 1, 31, 62, 63) {
		checkMay(t, changed(middle(), func(m *api.Manifest) { m.Drives = drives }), ascending(drives))
	}
	for _, drives := range lists(4, -1, 0, 2, 63, 64) {
		want := ascending(drives) && !slices.Contains(drives, -1) && !slices.Contains(drives, 64)
		checkMay(t, changed(middle(), func(m *api.Manifest) { m.Drives = drives }), want)
	}
}

func TestMayOfAllListsOfNames(t *testing.T) {
	for _, names := range lists(4, "-", "0", "0a", "a", "a-", "aa", "z") {
		checkMay(t, of(named(names...)...), ascending(names))
	}
}

func TestMayOfAllListsOfObjects(t *testing.T) {
	for _, numbers := range lists(5, 0, 1, 2, 3, 4) {
		want := len(slices.Compact(slices.Sorted(slices.Values(numbers)))) == len(numbers)
		checkMay(t, of(numbered(numbers...)...), want)
	}
}

func TestMayOfEachCountOfObjects(t *testing.T) {
	for count := range 400 {
		checkMay(t, of(entries(count)...), count <= 12)
	}
}

// An object's number just below Next, at it and above, at each place.
func TestMayOfNextAndObject(t *testing.T) {
	for _, next := range []int{6, 7, 255, 256, 257, 65536, 16777215, 16777216} {
		for i := range 5 {
			for d := -2; d <= 2; d++ {
				m := of(entries(5)...)
				m.Next, m.Objects[i].Object = next, next+d
				m.Objects[(i+1)%5].Object = 0
				m.Objects[(i+2)%5].Object = 1
				m.Objects[(i+3)%5].Object = 2
				m.Objects[(i+4)%5].Object = 3
				checkMay(t, m, d < 0)
			}
		}
	}
	for next := range 5 {
		checkMay(t, changed(of(entries(3)...), func(m *api.Manifest) { m.Next = next }), next >= 3)
	}
}

func TestMayOfEachLength(t *testing.T) {
	for _, p := range []api.Params{{K: 1, H: 1, Size: 1}, {K: 4, H: 2, Size: 3}, {K: 16, H: 4, Size: 24}, {K: 1, H: 4, Size: 24}} {
		most := 8 * p.K * p.Size
		for n := -20; n <= most+20; n++ {
			for count := range 10 {
				want := n >= 0 && n <= most && count == blocks(p, n)
				checkMay(t, changed(of(long(n, count)), func(m *api.Manifest) { m.P = p }), want)
			}
		}
	}
}

func TestMayOfLengthOfAllParameters(t *testing.T) {
	for _, p := range parameters(1) {
		most := 8 * p.K * p.Size
		for _, n := range append(lengths(p), most+1, most+2) {
			checkMay(t, changed(of(long(n, blocks(p, n))), func(m *api.Manifest) { m.P = p }), n <= most)
		}
	}
}

func TestMayOfEachTry(t *testing.T) {
	for _, m := range []api.Manifest{middle(), greatest(), of(long(96, 8))} {
		for i := range m.Objects {
			for j := range m.Objects[i].Tries {
				for try := -20; try <= 300; try++ {
					checkMay(t, changed(m, func(m *api.Manifest) { m.Objects[i].Tries[j] = try }), try >= 0 && try <= 15)
				}
			}
		}
	}
}

// spoilt is a manifest in which a part, by chance, has another value about its bounds.
func spoilt(r *rand.Rand, m api.Manifest) api.Manifest {
	m = copied(m)
	n := r.Intn(5)
	if len(m.Drives) > 0 && r.Intn(4) == 0 {
		m.Drives[r.Intn(len(m.Drives))] += n - 2
	}
	if len(m.Objects) == 0 || r.Intn(3) == 0 {
		p := parts()[r.Intn(6)]
		*p.of(&m) = []int{p.least, p.most}[r.Intn(2)] + n - 2
		return m
	}
	e, other := &m.Objects[r.Intn(len(m.Objects))], &m.Objects[r.Intn(len(m.Objects))]
	switch r.Intn(6) {
	case 0:
		e.Name = chanceName(r)
	case 1:
		e.Name, other.Name = other.Name, e.Name
	case 2:
		e.Object = other.Object + n
	case 3:
		e.Object = m.Next + n - 2
	case 4:
		e.Length += n - 2
	case 5:
		e.Tries = append(e.Tries, 14+r.Intn(3))[r.Intn(2):]
	}
	return m
}

func TestMayByChance(t *testing.T) {
	r := rand.New(rand.NewSource(193))
	count := map[bool]int{}
	for range 50_000 {
		m := chance(r)
		checkMay(t, m, true)
		m = spoilt(r, m)
		checkMay(t, m, isValid(m))
		count[isValid(m)]++
	}
	if count[true] < 1000 || count[false] < 1000 {
		t.Error("too few of a kind:", count)
	}
}

// What lies behind a list does not count.
func TestMayOfSpareCapacity(t *testing.T) {
	m := middle()
	m.Drives = []int{3, 7, 99, 1}[:2]
	m.Objects = append(m.Objects, api.Entry{Name: "", Object: -1})[:5]
	m.Objects[0].Tries = []int{1, 2, 3, 99, 99}[:3]
	m.Objects[2].Tries = []int{99}[:0]
	checkMay(t, m, true)
	if got, want := mani.Pack(m), words(m); fmt.Sprint(got) != fmt.Sprint(want) {
		t.Errorf("Pack(%+v) = %x, want %x", m, got, want)
	}
}

// Very long lists and texts, right up to a last one that is not.
func TestMayOfVeryMuch(t *testing.T) {
	with := func(change func(*api.Manifest)) {
		t.Helper()
		m := changed(middle(), change)
		if mani.May(m) || len(mani.Pack(m)) > 0 {
			t.Error("a manifest that has very much of something is valid")
		}
	}
	many := make([]int, 1<<20)
	with(func(m *api.Manifest) { m.Drives = many })
	for i := range many {
		many[i] = i
	}
	with(func(m *api.Manifest) { m.Drives = many })
	with(func(m *api.Manifest) { m.Objects[0].Tries = make([]int, 1<<20) })
	with(func(m *api.Manifest) { m.Objects[0].Tries = make([]int, 3+1<<16) })
	with(func(m *api.Manifest) { m.Objects[4].Name = strings.Repeat("x", 1<<24) })
	with(func(m *api.Manifest) { m.Objects[4].Name = strings.Repeat("x", 1+1<<16) })
	with(func(m *api.Manifest) { m.Objects = entries(1 << 16) })
	with(func(m *api.Manifest) { m.Objects = make([]api.Entry, 1<<20) })
}
