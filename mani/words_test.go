package mani_test

import (
	"encoding/hex"
	"fmt"
	"math"
	"math/rand"
	"regexp"
	"slices"
	"strings"

	"wellspring/api"
)

// What these tests hold the package against: a manifest's validity, its bytes, and the
// manifest of bytes, by the words of the chapter.

// blocks is how many blocks n bytes need, one block after another.
func blocks(p api.Params, n int) int {
	count := 0
	for room := 0; room < n; room += p.K * p.Size {
		count++
	}
	return count
}

// isName says by the words which texts are names. (\z, not $, lest an end of line pass.)
var isName = regexp.MustCompile(`^[a-z0-9-]{1,12}\z`)

// between reports whether each number is from least to most.
func between(least, most int, list ...int) bool {
	return len(list) == 0 || slices.Min(list) >= least && slices.Max(list) <= most
}

// isValid reports by the words of the chapter whether a manifest is valid.
func isValid(m api.Manifest) bool {
	if !between(1, 2147483647, m.Seq) || !between(0, 16777216, m.Next) || !between(0, 16, m.Extra) {
		return false
	}
	if !between(1, 16, m.P.K) || !between(1, 4, m.P.H) || !between(1, 24, m.P.Size) {
		return false
	}
	sorted := slices.Sorted(slices.Values(m.Drives))
	if !between(0, 63, m.Drives...) || !slices.Equal(slices.Compact(sorted), m.Drives) || len(m.Objects) > 12 {
		return false
	}
	names, numbers := []string{}, map[int]bool{}
	for _, e := range m.Objects {
		names, numbers[e.Object] = append(names, e.Name), true
		if !isName.MatchString(e.Name) || !between(0, m.Next-1, e.Object) || !between(0, m.P.K*m.P.Size*8, e.Length) {
			return false
		}
		if len(e.Tries) != blocks(m.P, e.Length) || !between(0, 15, e.Tries...) {
			return false
		}
	}
	ordered := slices.Compact(slices.Sorted(slices.Values(names)))
	return slices.Equal(ordered, names) && len(numbers) == len(m.Objects)
}

// words are the bytes of a manifest by the words of the chapter, number by number in hex.
// Each part must fit in its bytes; it need not be valid.
func words(m api.Manifest) []byte {
	text := fmt.Sprintf("%08x%08x%02x%02x%02x%02x%02x", m.Seq, m.Next, m.P.K, m.P.H, m.P.Size, m.Extra, len(m.Drives))
	for _, d := range m.Drives {
		text += fmt.Sprintf("%02x", d)
	}
	text += fmt.Sprintf("%02x", len(m.Objects))
	for _, e := range m.Objects {
		text += fmt.Sprintf("%02x%x%06x%04x", len(e.Name), e.Name, e.Object, e.Length)
		for _, try := range e.Tries {
			text += fmt.Sprintf("%02x", try)
		}
	}
	b, err := hex.DecodeString(text)
	if err != nil {
		panic("a part does not fit: " + text)
	}
	return b
}

// told is the manifest that bytes tell by the words of the chapter, and whether they tell
// a valid one and nothing else.
func told(b []byte) (m api.Manifest, ok bool) {
	at := 0
	number := func(width int) int {
		n := 0
		for range width {
			n, at = n*256+int(b[at]), at+1
		}
		return n
	}
	numbers := func(count int) (list []int) {
		for len(list) < count {
			list = append(list, number(1))
		}
		return list
	}
	defer func() {
		if recover() != nil { // there were too few bytes
			m, ok = api.Manifest{}, false
		}
	}()
	m.Seq, m.Next = number(4), number(4)
	m.P.K, m.P.H, m.P.Size, m.Extra = number(1), number(1), number(1), number(1)
	if m.P.K*m.P.Size == 0 {
		return api.Manifest{}, false
	}
	m.Drives = numbers(number(1))
	for range number(1) {
		var e api.Entry
		for range number(1) {
			e.Name += string([]byte{byte(number(1))})
		}
		e.Object, e.Length = number(3), number(2)
		e.Tries = numbers(blocks(m.P, e.Length))
		m.Objects = append(m.Objects, e)
	}
	if at != len(b) || !isValid(m) {
		return api.Manifest{}, false
	}
	return m, true
}

// Manifests.

func least() api.Manifest {
	return api.Manifest{Seq: 1, P: api.Params{K: 1, H: 1, Size: 1}}
}

// middle is a manifest with each part between its bounds. Its blocks have 12 bytes.
func middle() api.Manifest {
	return api.Manifest{
		Seq: 0x12345678, Next: 0x9abcde, P: api.Params{K: 4, H: 2, Size: 3}, Extra: 5, Drives: []int{3, 7, 8, 42},
		Objects: []api.Entry{
			{Name: "c-1", Object: 0x345678, Length: 30, Tries: []int{1, 14, 9}},
			{Name: "f", Object: 0x123456, Length: 12, Tries: []int{5}},
			{Name: "fog", Object: 0x9abcdd, Length: 0},
			{Name: "fog-2", Object: 0x010203, Length: 96, Tries: []int{8, 7, 6, 5, 4, 3, 2, 1}},
			{Name: "x", Object: 0x040506, Length: 13, Tries: []int{10, 11}},
		},
	}
}

func greatest() api.Manifest {
	m := api.Manifest{Seq: 2147483647, Next: 16777216, P: api.Params{K: 16, H: 4, Size: 24}, Extra: 16}
	for d := range 64 {
		m.Drives = append(m.Drives, d)
	}
	for i := range 12 {
		name := strings.Repeat("z", 11) + string("0123456789yz"[i])
		tries := []int{15, 15, 15, 15, 15, 15, 15, 15}
		m.Objects = append(m.Objects, api.Entry{Name: name, Object: 16777215 - i, Length: 3072, Tries: tries})
	}
	return m
}

// copied is a manifest with lists of its own.
func copied(m api.Manifest) api.Manifest {
	m.Drives = slices.Clone(m.Drives)
	m.Objects = slices.Clone(m.Objects)
	for i := range m.Objects {
		m.Objects[i].Tries = slices.Clone(m.Objects[i].Tries)
	}
	return m
}

// changed is a manifest in which something is changed.
func changed(m api.Manifest, change func(*api.Manifest)) api.Manifest {
	m = copied(m)
	change(&m)
	return m
}

// equal reports whether two manifests are the same in each part.
func equal(a, b api.Manifest) bool {
	return a.Seq == b.Seq && a.Next == b.Next && a.P == b.P && a.Extra == b.Extra && slices.Equal(a.Drives, b.Drives) &&
		slices.EqualFunc(a.Objects, b.Objects, func(a, b api.Entry) bool {
			return a.Name == b.Name && a.Object == b.Object && a.Length == b.Length && slices.Equal(a.Tries, b.Tries)
		})
}

// entries are so many objects without bytes, whose names and numbers ascend.
func entries(count int) []api.Entry {
	list := make([]api.Entry, count)
	for i := range list {
		list[i] = api.Entry{Name: fmt.Sprintf("o%06d", i), Object: i}
	}
	return list
}

// of is middle with these objects.
func of(list ...api.Entry) api.Manifest {
	m := middle()
	m.Objects = list
	return m
}

// named are objects without bytes that have these names, and ascending numbers.
func named(names ...string) []api.Entry {
	list := entries(len(names))
	for i := range list {
		list[i].Name = names[i]
	}
	return list
}

// numbered are objects without bytes that have these numbers, and ascending names.
func numbered(numbers ...int) []api.Entry {
	list := entries(len(numbers))
	for i := range list {
		list[i].Object = numbers[i]
	}
	return list
}

// long is an object of so many bytes, with so many tries.
func long(length, tries int) api.Entry {
	e := api.Entry{Name: "long", Length: length}
	for i := range tries {
		e.Tries = append(e.Tries, (7*i+3)%16)
	}
	return e
}

// inside are the numbers at and next to the bounds, and some between.
func inside(least, most int) []int {
	list := []int{}
	for _, n := range []int{
		least, least + 1, least + 2, 127, 128, 255, 256, 257, 0x0102, 65535, 65536, 0x010203, 0x01020304, 0x7f8f9faf,
		(least + most) / 2, most - 2, most - 1, most,
	} {
		if between(least, most, n) {
			list = append(list, n)
		}
	}
	return list
}

// outside are numbers just below least and just above most, some far outside, and some
// that would be within if cut to their lowest bits.
func outside(least, most int) []int {
	list := []int{
		least - 1, most + 1, least - 2, most + 2, -1000, most + 1000, -least - 1, -most - 1,
		math.MinInt, math.MinInt + 1, math.MaxInt, math.MaxInt - 1, math.MinInt32, 1 << 40,
	}
	for _, bits := range []int{8, 16, 24, 31, 32, 33, 48, 56, 62} {
		for _, low := range []int{least, most, (least + most) / 2} {
			for _, n := range []int{low + 1<<bits, low - 1<<bits} {
				if !between(least, most, n) {
					list = append(list, n)
				}
			}
		}
	}
	return list
}

// part is a number of a manifest: its bounds, and where it stands.
type part struct {
	name        string
	least, most int
	of          func(*api.Manifest) *int
}

// parts are the numbers of a manifest that hang on no other part.
func parts() []part {
	return []part{
		{"Seq", 1, 2147483647, func(m *api.Manifest) *int { return &m.Seq }},
		{"Next", 0, 16777216, func(m *api.Manifest) *int { return &m.Next }},
		{"K", 1, 16, func(m *api.Manifest) *int { return &m.P.K }},
		{"H", 1, 4, func(m *api.Manifest) *int { return &m.P.H }},
		{"Size", 1, 24, func(m *api.Manifest) *int { return &m.P.Size }},
		{"Extra", 0, 16, func(m *api.Manifest) *int { return &m.Extra }},
	}
}

// bare are the least, a middle and the greatest manifest without objects, so that each
// number may be changed by itself.
func bare() []api.Manifest {
	list := []api.Manifest{least(), middle(), greatest()}
	for i := range list {
		list[i].Objects = nil
	}
	return list
}

// placed are manifests whose object at each place, the first, between, the last, or the
// only one, may be changed.
func placed() []api.Manifest {
	m := of(entries(5)...)
	for i := range m.Objects {
		m.Objects[i].Object = 1000 + i
	}
	m.Next = 1005
	return []api.Manifest{m, of(long(40, 4)), greatest()}
}

// valid are manifests that are, with each part at its bounds and between.
func valid() []api.Manifest {
	list := []api.Manifest{least(), middle(), greatest()}
	for _, m := range bare() {
		for _, p := range parts() {
			for _, n := range inside(p.least, p.most) {
				list = append(list, changed(m, func(m *api.Manifest) { *p.of(m) = n }))
			}
		}
	}
	list = append(list, withDrives()...)
	list = append(list, withObjects()...)
	return append(list, withLengths()...)
}

// withDrives are valid manifests with drives of many kinds.
func withDrives() []api.Manifest {
	lists := [][]int{nil, {}, {0, 63}, {0, 1}, {62, 63}, {1, 2, 4, 8, 16, 32}, {0, 31, 32, 63}, greatest().Drives}
	for d := range 64 {
		lists = append(lists, []int{d}, greatest().Drives[:d], greatest().Drives[d:])
		lists = append(lists, slices.Delete(greatest().Drives, d, d+1))
	}
	list := []api.Manifest{}
	for _, m := range []api.Manifest{least(), middle(), greatest()} {
		for _, drives := range lists {
			list = append(list, changed(m, func(m *api.Manifest) { m.Drives = drives }))
		}
	}
	return list
}

// withObjects are valid manifests with objects of many kinds.
func withObjects() []api.Manifest {
	list := []api.Manifest{}
	for count := range 13 {
		list = append(list, of(entries(count)...))
		list = append(list, changed(greatest(), func(m *api.Manifest) { m.Objects = m.Objects[:count] }))
	}
	for _, names := range [][]string{
		{"a"}, {"z"}, {"0"}, {"9"}, {"-"}, {"abcdefghijkl"}, {"------------"}, {"a", "aa"}, {"a", "a-", "a0", "aa"},
		{"-", "0", "9", "a", "z"}, {"a", "b"}, {"ab", "b"}, {"aaaaaaaaaaaa", "aaaaaaaaaaab"}, {"10", "9"},
		{"--", "-0", "0-", "00", "0a", "a0"}, {"m", "m-n", "mm", "mmmmmmmmmmmm", "n"},
	} {
		list = append(list, of(named(names...)...))
	}
	for _, numbers := range [][]int{{0}, {5}, {1, 0}, {0, 1}, {3, 9, 1, 7}, {255, 256, 65535, 65536, 0x010203}, {2, 1, 0, 3}} {
		m := of(numbered(numbers...)...)
		list = append(list, m, changed(m, func(m *api.Manifest) { m.Next = slices.Max(numbers) + 1 }))
		list = append(list, changed(m, func(m *api.Manifest) { m.Next = 16777216 }))
	}
	for _, m := range placed()[:2] {
		for i := range m.Objects {
			for _, n := range []int{0, 255, 256, 65535, 65536, 0x010203, 0x9abcdd, 16777214, 16777215} {
				list = append(list, changed(m, func(m *api.Manifest) { m.Objects[i].Object, m.Next = n, 16777216 }))
			}
		}
	}
	return list
}

// lengths are how many bytes an object may have: none, one, and about each number of whole
// blocks, up to the greatest.
func lengths(p api.Params) []int {
	size := p.K * p.Size
	list := []int{0, 1}
	for count := 1; count <= 8; count++ {
		list = append(list, count*size-1, count*size, count*size+1)
	}
	return slices.DeleteFunc(list, func(n int) bool { return n > 8*size })
}

// parameters are all that are valid, or every so many of them.
func parameters(step int) []api.Params {
	list := []api.Params{}
	for i := range 16 * 4 * 24 / step {
		n := i * step
		list = append(list, api.Params{K: 1 + n%16, H: 1 + n/16%4, Size: 1 + n/64})
	}
	return list
}

// withLengths are valid manifests with an object of many lengths and its tries.
func withLengths() []api.Manifest {
	list := []api.Manifest{}
	for _, p := range append(parameters(7), api.Params{K: 1, H: 1, Size: 1}, api.Params{K: 16, H: 4, Size: 24}) {
		for _, n := range lengths(p) {
			m := of(long(n, blocks(p, n)))
			m.P = p
			list = append(list, m)
		}
	}
	for _, tries := range [][]int{{0}, {15}, {7}} {
		m := of(long(96, 8))
		for i := range 8 {
			list = append(list, changed(m, func(m *api.Manifest) { copy(m.Objects[0].Tries[i:], tries) }))
		}
	}
	return list
}

// chance is a valid manifest by chance.
func chance(r *rand.Rand) api.Manifest {
	m := api.Manifest{Seq: 1 + r.Intn(2147483647), Next: 12 + r.Intn(16777205), Extra: r.Intn(17)}
	m.P = api.Params{K: 1 + r.Intn(16), H: 1 + r.Intn(4), Size: 1 + r.Intn(24)}
	for d := range 64 {
		if r.Intn(3) == 0 {
			m.Drives = append(m.Drives, d)
		}
	}
	names, numbers := map[string]bool{}, r.Perm(min(m.Next, 40))
	for range r.Intn(13) {
		names[chanceName(r)] = true
	}
	for i, name := range sortedNames(names) {
		e := api.Entry{Name: name, Object: numbers[i], Length: r.Intn(8*m.P.K*m.P.Size + 1)}
		for range blocks(m.P, e.Length) {
			e.Tries = append(e.Tries, r.Intn(16))
		}
		m.Objects = append(m.Objects, e)
	}
	if n := len(m.Objects); n > 0 {
		m.Objects[r.Intn(n)].Object = m.Next - 1
	}
	return m
}

// chanceName is a name by chance.
func chanceName(r *rand.Rand) string {
	b := make([]byte, 1+r.Intn(12))
	for i := range b {
		b[i] = "abcdefghijklmnopqrstuvwxyz0123456789-"[r.Intn(37)]
	}
	return string(b)
}

// sortedNames are the names of a set, sorted.
func sortedNames(set map[string]bool) []string {
	list := []string{}
	for name := range set {
		list = append(list, name)
	}
	slices.Sort(list)
	return list
}
