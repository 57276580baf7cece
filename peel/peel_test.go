package peel_test

import (
	"bytes"
	"fmt"
	"math"
	"math/rand"
	"slices"
	"sync"
	"testing"

	"wellspring/api"
	"wellspring/peel"
)

// answer is what one call of Peel returned.
type answer struct {
	known []bool
	vals  [][]byte
	rest  []api.Eq
	e     api.Errno
}

func ask(n int, l []api.Eq) answer {
	known, vals, rest, e := peel.Peel(n, l)
	return answer{known, vals, rest, e}
}

func eq(data []byte, cols ...int) api.Eq { return api.Eq{Cols: cols, Data: data} }

func sameRows(a, b [][]byte) bool { return slices.EqualFunc(a, b, bytes.Equal) }

func sameEqs(a, b []api.Eq) bool {
	return slices.EqualFunc(a, b, func(x, y api.Eq) bool {
		return slices.Equal(x.Cols, y.Cols) && bytes.Equal(x.Data, y.Data)
	})
}

func same(a, b answer) bool {
	return a.e == b.e && slices.Equal(a.known, b.known) && sameRows(a.vals, b.vals) && sameEqs(a.rest, b.rest)
}

// blank reports whether beside its error an answer has nothing.
func blank(a answer) bool { return len(a.known) == 0 && len(a.vals) == 0 && len(a.rest) == 0 }

// copied is the list with memory of its own.
func copied(l []api.Eq) []api.Eq {
	var c []api.Eq
	for _, q := range l {
		c = append(c, eq(bytes.Clone(q.Data), slices.Clone(q.Cols)...))
	}
	return c
}

// add adds b to a in place.
func add(a, b []byte) {
	for i := range a {
		a[i] ^= b[i]
	}
}

// wanted is what Peel returns by the chapter's words, of equations that may be. An
// equation with a single unknown is chosen at will among all that have one, and
// what it tells is at once taken out of every equation.
func wanted(dice *rand.Rand, n int, l []api.Eq) answer {
	work := copied(l)
	a := answer{known: make([]bool, n), vals: make([][]byte, n)}
	for {
		var single []int
		for i, q := range work {
			if len(q.Cols) == 1 {
				single = append(single, i)
			}
		}
		if len(single) == 0 {
			break
		}
		q := work[single[dice.Intn(len(single))]]
		c, value := q.Cols[0], bytes.Clone(q.Data)
		a.known[c], a.vals[c] = true, value
		for i := range work {
			if at := slices.Index(work[i].Cols, c); at >= 0 {
				work[i].Cols = slices.Delete(work[i].Cols, at, at+1)
				add(work[i].Data, value)
			}
		}
	}
	for _, q := range work {
		if len(q.Cols) == 0 && slices.Max(append(q.Data, 0)) > 0 {
			return answer{e: api.ErrClash}
		}
		if len(q.Cols) > 0 {
			a.rest = append(a.rest, q)
		}
	}
	return a
}

// some are bytes, 0 every other time.
func some(dice *rand.Rand, n int) []byte {
	r := make([]byte, n)
	for i := range r {
		r[i] = byte(dice.Intn(256) * dice.Intn(2))
	}
	return r
}

// chosen are k of the columns from 0 on below n, in ascending order.
func chosen(dice *rand.Rand, n, k int) []int {
	cols := dice.Perm(n)[:k]
	slices.Sort(cols)
	return cols
}

// values are n values of size bytes.
func values(dice *rand.Rand, n, size int) [][]byte {
	var list [][]byte
	for range n {
		list = append(list, some(dice, size))
	}
	return list
}

// sum is the sum of the values at the columns.
func sum(cols []int, vals [][]byte, size int) []byte {
	s := make([]byte, size)
	for _, c := range cols {
		add(s, vals[c])
	}
	return s
}

// stated are m equations that follow from the values. Most have few columns, some
// have none, and some occur several times.
func stated(dice *rand.Rand, vals [][]byte, size, m int) []api.Eq {
	var l []api.Eq
	for len(l) < m {
		most := []int{0, 1, 2, 2, 3, 3, 4, 8, len(vals)}[dice.Intn(9)]
		cols := chosen(dice, len(vals), dice.Intn(min(most, len(vals))+1))
		for range 1 + dice.Intn(4)/3 {
			l = append(l, eq(sum(cols, vals, size), cols...))
		}
	}
	dice.Shuffle(len(l), func(i, j int) { l[i], l[j] = l[j], l[i] })
	return l
}

func counts() []int { return []int{0, 1, 2, 3, 4, 5, 8, 20, api.MaxCols - 1, api.MaxCols} }

// cases calls with many lists of equations that follow from values.
func cases(call func(dice *rand.Rand, n, size int, vals [][]byte, l []api.Eq)) {
	dice := rand.New(rand.NewSource(12))
	for _, n := range counts() {
		for _, size := range []int{0, 1, 3, api.MaxSize, 70} {
			for _, m := range []int{0, 1, n / 2, n, n + 2, 2*n + 1, 5*n + 3} {
				for range 3 {
					vals := values(dice, n, size)
					call(dice, n, size, vals, stated(dice, vals, size, m))
				}
			}
		}
	}
}

// outside are numbers that n may not be. Cut to 8, 16 or 32 bits, or without their
// sign, many of them could be.
func outside() []int {
	list := []int{
		-1, -2, -64, -65, 65, 66, 127, 128, 255, 256, 1 << 16, 1 << 32, 1 << 62, math.MaxInt32, math.MaxInt32 + 1,
		math.MaxInt, math.MaxInt - 1, math.MinInt, math.MinInt + 1, math.MinInt32, math.MinInt32 - 1, -1 << 32, -1 << 62,
	}
	for _, n := range []int{1, 2, 63, 64} {
		list = append(list, 256+n, 1<<16+n, 1<<32+n, n-256, n-1<<16, n-1<<32, n+math.MinInt)
	}
	return list
}

// wrongCols are lists that no equation of n columns may have, for n of at least 4.
func wrongCols(n int) [][]int {
	list := [][]int{
		{0, 0}, {1, 1}, {n - 1, n - 1}, {0, 1, 1}, {0, 0, 1}, {0, 1, 2, 2}, {1, 0}, {2, 1}, {0, 2, 1}, {1, 2, 0}, {n - 1, 0},
		{0, 1, 0}, {2, 3, 2}, {-1, 0}, {0, -1}, {-2, -1}, {0, n}, {n - 1, n}, {n, n - 1}, {n, n}, {n, n + 1}, {-1, n}, {0, 2, n},
		{1, 0, 2, 3}, {0, 1, 3, 2}, slices.Repeat([]int{0}, 70),
	}
	for _, c := range []int{
		-1, -2, -n, n, n + 1, 2 * n, 64, 65, 255, 256, 257, -255, -256, 1 << 16, 1 << 32, 1<<32 + 1, 1 - 1<<32,
		math.MaxInt32, math.MinInt32, math.MaxInt, math.MaxInt - 1, math.MinInt, math.MinInt + 1,
	} {
		list = append(list, []int{c}, []int{c, c}, []int{0, 1, c}, []int{c, 1, 2})
	}
	return list
}

// refused holds Peel of what may not be against ErrArg.
func refused(t *testing.T, n int, l []api.Eq) {
	t.Helper()
	if got := ask(n, l); got.e != api.ErrArg || !blank(got) {
		t.Fatalf("Peel(%d, %v) = %v, want ErrArg alone", n, l, got)
	}
}

// P12.1

func TestWrittenOut(t *testing.T) {
	for _, c := range []struct {
		n    int
		l    []api.Eq
		want answer
	}{
		{ // the chapter's example
			2, []api.Eq{eq([]byte{1}, 0), eq([]byte{3}, 0, 1)},
			answer{known: []bool{true, true}, vals: [][]byte{{1}, {2}}},
		},
		{
			2, []api.Eq{eq([]byte{3}, 0, 1), eq([]byte{1}, 0)},
			answer{known: []bool{true, true}, vals: [][]byte{{1}, {2}}},
		},
		{ // 2 is told by what 0 and 1 are told by before, 3 and 4 only together
			5, []api.Eq{eq([]byte{8, 1}, 2, 3, 4), eq([]byte{7, 0}, 0, 1, 2), eq([]byte{6, 0}, 0, 2), eq([]byte{4, 0}, 2)},
			answer{
				known: []bool{true, true, true, false, false}, vals: [][]byte{{2, 0}, {1, 0}, {4, 0}, nil, nil},
				rest: []api.Eq{eq([]byte{12, 1}, 3, 4)},
			},
		},
		{ // as many as there are columns, yet none has a single one
			3, []api.Eq{eq([]byte{3}, 0, 1), eq([]byte{6}, 1, 2), eq([]byte{7}, 0, 1, 2)},
			answer{
				known: make([]bool, 3), vals: make([][]byte, 3),
				rest: []api.Eq{eq([]byte{3}, 0, 1), eq([]byte{6}, 1, 2), eq([]byte{7}, 0, 1, 2)},
			},
		},
		{ // what is left keeps its order, and each one that is equal to another
			6, []api.Eq{eq([]byte{9}, 2, 4, 5), eq([]byte{1}, 4), eq([]byte{5}, 1, 2), eq([]byte{8}, 2, 5), eq([]byte{5}, 1, 2), eq([]byte{0})},
			answer{
				known: []bool{4: true, 5: false}, vals: [][]byte{4: {1}, 5: nil},
				rest: []api.Eq{eq([]byte{8}, 2, 5), eq([]byte{5}, 1, 2), eq([]byte{8}, 2, 5), eq([]byte{5}, 1, 2)},
			},
		},
		{ // those that contradict one another are left, because they have unknown columns
			4, []api.Eq{eq([]byte{1}, 0, 1), eq([]byte{2}, 1, 3), eq([]byte{4}, 0, 3), eq([]byte{5}, 0, 1)},
			answer{
				known: make([]bool, 4), vals: make([][]byte, 4),
				rest: []api.Eq{eq([]byte{1}, 0, 1), eq([]byte{2}, 1, 3), eq([]byte{4}, 0, 3), eq([]byte{5}, 0, 1)},
			},
		},
		{1, nil, answer{known: []bool{false}, vals: [][]byte{nil}}},
		{1, []api.Eq{eq([]byte{0}, 0)}, answer{known: []bool{true}, vals: [][]byte{{0}}}},
		{0, nil, answer{}},
		{0, []api.Eq{eq([]byte{0, 0}), eq([]byte{0, 0})}, answer{}},
		{0, []api.Eq{eq([]byte{0, 1})}, answer{e: api.ErrClash}},
		{1, []api.Eq{eq([]byte{1}, 0), eq([]byte{2}, 0)}, answer{e: api.ErrClash}},
		{3, []api.Eq{eq([]byte{1}, 0), eq([]byte{2}, 1), eq([]byte{1}, 0, 1)}, answer{e: api.ErrClash}},
		{1, []api.Eq{eq([]byte{1}, 1)}, answer{e: api.ErrArg}},
		{-1, nil, answer{e: api.ErrArg}},
	} {
		if got := ask(c.n, c.l); !same(got, c.want) {
			t.Errorf("Peel(%d, %v) = %v, want %v", c.n, c.l, got, c.want)
		}
	}
}

func TestByTheChapter(t *testing.T) {
	seen := map[string]int{}
	cases(func(dice *rand.Rand, n, size int, vals [][]byte, l []api.Eq) {
		got := ask(n, l)
		if want := wanted(dice, n, l); !same(got, want) || got.e != api.OK {
			t.Fatalf("Peel(%d, %v) = %v, want %v", n, l, got, want)
		}
		switch {
		case n > 1 && !slices.Contains(got.known, false):
			seen["all"]++
		case slices.Contains(got.known, true) && len(got.rest) > 0:
			seen["some"]++
		case len(got.rest) > 0:
			seen["none"]++
		}
	})
	if seen["all"] < 50 || seen["some"] < 50 || seen["none"] < 30 {
		t.Error("not all that may come of it was asked for often:", seen)
	}
}

// What is told of the equations that follow from values is these values and no
// others; what is left holds of them too.
func TestOfEquationsThatFollowFromValues(t *testing.T) {
	cases(func(dice *rand.Rand, n, size int, vals [][]byte, l []api.Eq) {
		got := ask(n, l)
		if got.e != api.OK || len(got.known) != n || len(got.vals) != n {
			t.Fatalf("Peel(%d, %v) = %v", n, l, got)
		}
		for c, is := range got.known {
			if is && !bytes.Equal(got.vals[c], vals[c]) || !is && len(got.vals[c]) != 0 {
				t.Fatalf("Peel(%d, %v) tells of column %d: %v, %v, its value is %v", n, l, c, is, got.vals[c], vals[c])
			}
		}
		at := 0
		for _, q := range l {
			left := slices.DeleteFunc(slices.Clone(q.Cols), func(c int) bool { return got.known[c] })
			if len(left) == 1 {
				t.Fatalf("Peel(%d, %v) leaves %d alone in %v", n, l, left[0], q)
			}
			if len(left) == 0 {
				continue
			}
			if at >= len(got.rest) || !slices.Equal(got.rest[at].Cols, left) || !bytes.Equal(got.rest[at].Data, sum(left, vals, size)) {
				t.Fatalf("Peel(%d, %v) leaves %v, of %v %v should be left", n, l, got.rest, q, left)
			}
			at++
		}
		if at != len(got.rest) {
			t.Fatalf("Peel(%d, %v) leaves %d equations, want %d", n, l, len(got.rest), at)
		}
	})
}

// Any Data, so that the equations often contradict one another.
func TestOfAnyData(t *testing.T) {
	dice := rand.New(rand.NewSource(2))
	seen := map[api.Errno]int{}
	for _, n := range counts() {
		for range 300 {
			size := dice.Intn(3)
			l := stated(dice, values(dice, n, size), size, 1+dice.Intn(2*n+3))
			for range dice.Intn(4) {
				l[dice.Intn(len(l))].Data = some(dice, size)
			}
			got, want := ask(n, l), wanted(dice, n, l)
			if !same(got, want) {
				t.Fatalf("Peel(%d, %v) = %v, want %v", n, l, got, want)
			}
			seen[got.e]++
		}
	}
	if seen[api.OK] < 500 || seen[api.ErrClash] < 500 {
		t.Error("the errors were hardly asked for:", seen)
	}
}

// Each list of up to four equations of two columns with one bit.
func TestOfAllSmallLists(t *testing.T) {
	dice := rand.New(rand.NewSource(3))
	var kinds []api.Eq
	for _, cols := range [][]int{{}, {0}, {1}, {0, 1}} {
		kinds = append(kinds, eq([]byte{0}, cols...), eq([]byte{1}, cols...))
	}
	var each func(l []api.Eq)
	each = func(l []api.Eq) {
		got, want := ask(2, l), wanted(dice, 2, l)
		if !same(got, want) {
			t.Fatalf("Peel(2, %v) = %v, want %v", l, got, want)
		}
		if len(l) == 4 {
			return
		}
		for _, q := range kinds {
			each(append(slices.Clip(l), q))
		}
	}
	each(nil)
}

// Each column is told by the one before it, and the equations stand so that none
// can be used before all that follow it.
func TestOfAChain(t *testing.T) {
	for n := 1; n <= api.MaxCols; n++ {
		vals := values(rand.New(rand.NewSource(int64(n))), n, 5)
		l := []api.Eq{eq(bytes.Clone(vals[0]), 0)}
		for c := 1; c < n; c++ {
			l = append(l, eq(sum([]int{c - 1, c}, vals, 5), c-1, c))
		}
		want := answer{known: slices.Repeat([]bool{true}, n), vals: vals}
		for range 2 {
			if got := ask(n, l); !same(got, want) {
				t.Fatalf("Peel(%d, %v) = %v, want %v", n, l, got, want)
			}
			slices.Reverse(l)
		}
		all := append(slices.Clone(l[1:]), eq(nil))
		for i := range all {
			all[i].Data = nil
		}
		left := slices.DeleteFunc(slices.Clone(all), func(q api.Eq) bool { return len(q.Cols) == 0 })
		want = answer{known: make([]bool, n), vals: make([][]byte, n), rest: left}
		if got := ask(n, all); !same(got, want) {
			t.Fatalf("without its beginning Peel(%d, %v) = %v, want %v", n, all, got, want)
		}
	}
}

// Each equation has all columns up to one, so that it is used last but for the
// longer ones.
func TestOfAStair(t *testing.T) {
	dice := rand.New(rand.NewSource(5))
	for n := 1; n <= api.MaxCols; n++ {
		vals := values(dice, n, 2)
		var l []api.Eq
		for c := n - 1; c >= 0; c-- {
			cols := chosen(dice, c+1, c+1)
			l = append(l, eq(sum(cols, vals, 2), cols...))
		}
		want := answer{known: slices.Repeat([]bool{true}, n), vals: vals}
		if got := ask(n, l); !same(got, want) {
			t.Fatalf("Peel(%d, %v) = %v, want %v", n, l, got, want)
		}
	}
}

func TestOfNoEquations(t *testing.T) {
	for n := range api.MaxCols + 1 {
		want := answer{known: make([]bool, n), vals: make([][]byte, n)}
		for _, l := range [][]api.Eq{nil, {}, {{}}, {{}, eq([]byte{}), eq(nil)}, slices.Repeat([]api.Eq{eq([]byte{0, 0, 0})}, 50)} {
			if got := ask(n, l); !same(got, want) {
				t.Fatalf("Peel(%d, %v) = %v, want %v", n, l, got, want)
			}
		}
	}
}

// Without bytes nothing can contradict anything, but columns become known.
func TestOfDataWithoutBytes(t *testing.T) {
	l := []api.Eq{eq(nil, 0, 1), eq([]byte{}, 0), eq(nil, 0), eq([]byte{}), eq(nil, 1, 2, 4), eq(nil, 0, 1), eq([]byte{}, 1, 2)}
	want := answer{known: []bool{true, true, true, false, true}, vals: make([][]byte, 5)}
	if got := ask(5, l); !same(got, want) {
		t.Errorf("Peel(5, %v) = %v, want %v", l, got, want)
	}
	l = []api.Eq{eq(nil, 0, 1, 3), eq(nil, 3), eq([]byte{}, 3, 4)}
	want = answer{known: []bool{3: true, 4: true}, vals: make([][]byte, 5), rest: []api.Eq{eq(nil, 0, 1)}}
	if got := ask(5, l); !same(got, want) {
		t.Errorf("Peel(5, %v) = %v, want %v", l, got, want)
	}
}

// Each column may be the one that is told, and each value what it is told.
func TestOfEachColumnAndByte(t *testing.T) {
	for n := 1; n <= api.MaxCols; n++ {
		for c := range n {
			l := []api.Eq{eq([]byte{byte(4*c + 1), byte(n)}, c)}
			want := answer{known: make([]bool, n), vals: make([][]byte, n)}
			want.known[c], want.vals[c] = true, []byte{byte(4*c + 1), byte(n)}
			if got := ask(n, l); !same(got, want) {
				t.Fatalf("Peel(%d, %v) = %v, want %v", n, l, got, want)
			}
		}
	}
	for a := range 256 {
		for b := range 256 {
			l := []api.Eq{eq([]byte{byte(b)}, 0, 1), eq([]byte{byte(a)}, 1)}
			want := answer{known: []bool{true, true}, vals: [][]byte{{byte(a ^ b)}, {byte(a)}}}
			if got := ask(2, l); !same(got, want) {
				t.Fatalf("Peel(2, %v) = %v, want %v", l, got, want)
			}
		}
	}
}

func TestOfManyEquations(t *testing.T) {
	dice := rand.New(rand.NewSource(6))
	vals := values(dice, 40, 3)
	for _, l := range [][]api.Eq{
		stated(dice, vals, 3, 20000),
		slices.Repeat([]api.Eq{eq(sum([]int{3, 9}, vals, 3), 3, 9), eq(sum([]int{3, 4, 9}, vals, 3), 3, 4, 9), eq(vals[4], 4)}, 5000),
	} {
		got := ask(40, l)
		if want := wanted(dice, 40, l); !same(got, want) || got.e != api.OK {
			t.Errorf("Peel of %d equations is another one: %v, %v", len(l), got.e, got.known)
		}
	}
}

func TestOfLongData(t *testing.T) {
	dice := rand.New(rand.NewSource(7))
	vals := values(dice, 6, 100000)
	l := stated(dice, vals, 100000, 12)
	if got, want := ask(6, l), wanted(dice, 6, l); !same(got, want) {
		t.Error("Peel of long Data is another one")
	}
	last := append(l, eq(bytes.Clone(vals[2]), 2), eq(bytes.Clone(vals[2]), 2))
	last[len(last)-1].Data[99999] ^= 1
	if got := ask(6, last); got.e != api.ErrClash || !blank(got) {
		t.Error("a last byte that does not fit is no clash:", got.e)
	}
}

// P12.1: in whatever order the equations are given, the same is told, and what is
// left follows their order.

func TestTheOrderPlaysNoPart(t *testing.T) {
	cases(func(dice *rand.Rand, n, size int, vals [][]byte, l []api.Eq) {
		first := ask(n, l)
		for range 3 {
			l = slices.Clone(l)
			dice.Shuffle(len(l), func(i, j int) { l[i], l[j] = l[j], l[i] })
			got := ask(n, l)
			if !slices.Equal(got.known, first.known) || !sameRows(got.vals, first.vals) || len(got.rest) != len(first.rest) {
				t.Fatalf("Peel(%d, %v) = %v, in another order it was %v", n, l, got, first)
			}
			if want := wanted(dice, n, l); !sameEqs(got.rest, want.rest) {
				t.Fatalf("Peel(%d, %v) leaves %v, want %v", n, l, got.rest, want.rest)
			}
		}
	})
}

// arranged calls with each arrangement of the equations from the index at on.
func arranged(l []api.Eq, at int, call func()) {
	if at == len(l) {
		call()
		return
	}
	for i := at; i < len(l); i++ {
		l[at], l[i] = l[i], l[at]
		arranged(l, at+1, call)
		l[at], l[i] = l[i], l[at]
	}
}

func TestEachOrder(t *testing.T) {
	dice := rand.New(rand.NewSource(8))
	vals := values(dice, 7, 2)
	follow := func(cols ...int) api.Eq { return eq(sum(cols, vals, 2), cols...) }
	for _, l := range [][]api.Eq{
		{follow(0), follow(0, 1), follow(1, 2), follow(0, 2, 3), follow(4, 5, 6), follow(3, 4, 5, 6)},
		{follow(), follow(2, 3), follow(0, 1, 2, 3), follow(1), follow(1), follow(0, 6)},
		{eq([]byte{1, 2}, 0), eq([]byte{1, 2}, 1), eq([]byte{0, 0}, 0, 1), eq([]byte{3, 3}, 1, 2), eq([]byte{2, 1}, 0, 2), eq([]byte{9, 9}, 3, 4)},
		{eq([]byte{1, 2}, 0), eq([]byte{1, 3}, 1), eq([]byte{0, 0}, 0, 1), eq([]byte{3, 3}, 1, 2), eq([]byte{2, 1}, 0, 2), eq([]byte{9, 9}, 3, 4)},
	} {
		want := wanted(dice, 7, l)
		arranged(l, 0, func() {
			want.rest = wanted(dice, 7, l).rest
			if got := ask(7, l); !same(got, want) {
				t.Fatalf("Peel(7, %v) = %v, want %v", l, got, want)
			}
		})
	}
}

func TestRepeatsTellNothingNew(t *testing.T) {
	cases(func(dice *rand.Rand, n, size int, vals [][]byte, l []api.Eq) {
		once, thrice := ask(n, l), ask(n, slices.Repeat(l, 3))
		once.rest = slices.Repeat(once.rest, 3)
		if !same(thrice, once) {
			t.Fatalf("Peel(%d, %v three times) = %v, want %v", n, l, thrice, once)
		}
	})
}

// Taking what is left, with what is known, once more, tells the same.
func TestOfWhatIsLeft(t *testing.T) {
	cases(func(dice *rand.Rand, n, size int, vals [][]byte, l []api.Eq) {
		first := ask(n, l)
		want := answer{known: make([]bool, n), vals: make([][]byte, n), rest: first.rest}
		if got := ask(n, first.rest); !same(got, want) {
			t.Fatalf("Peel(%d, %v) = %v, want %v", n, first.rest, got, want)
		}
		more := slices.Clone(first.rest)
		for c, is := range first.known {
			if is {
				more = append(more, eq(first.vals[c], c))
			}
		}
		if got := ask(n, more); !same(got, first) {
			t.Fatalf("Peel(%d, %v) = %v, want %v", n, more, got, first)
		}
	})
}

// P12.1: ErrClash

// clashes holds Peel of equations that contradict one another against ErrClash.
func clashes(t *testing.T, n int, l []api.Eq) {
	t.Helper()
	if got := ask(n, l); got.e != api.ErrClash || !blank(got) {
		t.Fatalf("Peel(%d, %v) = %v, want ErrClash alone", n, l, got)
	}
}

// To equations that follow from values, one is added that does not: of known
// columns, or of none. It stands anywhere, and differs in one bit.
func TestClash(t *testing.T) {
	seen := 0
	cases(func(dice *rand.Rand, n, size int, vals [][]byte, l []api.Eq) {
		if size == 0 {
			return
		}
		told := ask(n, l)
		var all []int
		for c, is := range told.known {
			if is {
				all = append(all, c)
			}
		}
		var one []int
		if len(all) > 0 {
			one = []int{all[dice.Intn(len(all))]}
		}
		for _, cols := range [][]int{nil, one, all} {
			data := sum(cols, vals, size)
			data[dice.Intn(size)] ^= 1 << dice.Intn(8)
			for _, at := range []int{0, len(l) / 2, len(l)} {
				clashes(t, n, slices.Insert(slices.Clone(l), at, eq(data, cols...)))
			}
			if len(told.rest) > 0 && len(all) > 0 {
				seen++
			}
		}
	})
	if seen < 100 {
		t.Error("hardly ever did anything stay unknown beside a clash:", seen)
	}
}

func TestClashOfEachByte(t *testing.T) {
	for x := 1; x < 256; x++ {
		for at := range 5 {
			data := make([]byte, 5)
			data[at] = byte(x)
			clashes(t, 3, []api.Eq{eq(data)})
			clashes(t, 3, []api.Eq{eq(data, 2), eq(make([]byte, 5), 2)})
			clashes(t, 3, []api.Eq{eq(make([]byte, 5), 0, 2), eq(data, 0), eq(make([]byte, 5), 2), eq(make([]byte, 5), 0, 1)})
		}
	}
}

// A clash that is found only at the end of a long chain, and one whose equation is
// the first of all.
func TestClashAtTheEndOfAChain(t *testing.T) {
	for n := 2; n <= api.MaxCols; n++ {
		cols := chosen(rand.New(rand.NewSource(1)), n, n)
		l := []api.Eq{eq([]byte{7}, cols...), eq([]byte{1}, 0)}
		for c := n - 1; c > 0; c-- {
			l = append(l, eq([]byte{0}, c-1, c))
		}
		l[0].Data[0] = byte(n % 2)
		if got := ask(n, l); got.e != api.OK || slices.Contains(got.known, false) {
			t.Fatalf("Peel(%d, %v) = %v", n, l, got)
		}
		l[0].Data[0] ^= 128
		clashes(t, n, l)
		slices.Reverse(l)
		clashes(t, n, l)
	}
}

// P12.1: ErrArg

func TestOfWrongN(t *testing.T) {
	for _, n := range outside() {
		for _, l := range [][]api.Eq{nil, {{}}, {eq([]byte{1}, 0)}, {eq([]byte{1})}, {eq([]byte{1}, 0), eq([]byte{1, 2}, n-1)}} {
			refused(t, n, l)
		}
	}
	for _, n := range []int{0, api.MaxCols} { // one step before it may be
		if got := ask(n, nil); got.e != api.OK || len(got.known) != n || len(got.vals) != n {
			t.Errorf("Peel(%d, none) = %v", n, got)
		}
	}
}

func TestOfWrongCols(t *testing.T) {
	dice := rand.New(rand.NewSource(10))
	for _, n := range []int{4, 5, 20, 63, 64} {
		vals := values(dice, n, 2)
		for _, cols := range wrongCols(n) {
			bad := eq([]byte{0, 0}, cols...)
			refused(t, n, []api.Eq{bad})
			l := stated(dice, vals, 2, 9)
			for at := range len(l) + 1 {
				refused(t, n, slices.Insert(slices.Clone(l), at, bad))
			}
		}
	}
}

// Of few columns there are few numbers that an equation may have.
func TestOfEachNumberOfColumns(t *testing.T) {
	for n := range api.MaxCols + 1 {
		for c := -3; c <= api.MaxCols+3; c++ {
			l := []api.Eq{eq([]byte{5}, c)}
			if c < 0 || c >= n {
				refused(t, n, l)
			} else if got := ask(n, l); got.e != api.OK {
				t.Fatalf("Peel(%d, %v) = %v", n, l, got)
			}
		}
		all := chosen(rand.New(rand.NewSource(1)), n, n)
		refused(t, n, []api.Eq{eq(nil, append(all, n)...)})
		if got := ask(n, []api.Eq{eq(nil, all...)}); got.e != api.OK {
			t.Fatalf("Peel(%d, all columns) = %v", n, got)
		}
	}
}

func TestOfDataThatDiffersInLength(t *testing.T) {
	dice := rand.New(rand.NewSource(11))
	for _, n := range []int{1, 4, 64} {
		for _, size := range []int{0, 1, 2, 24, 300} {
			vals := values(dice, n, size)
			for _, other := range []int{0, 1, 2, 3, 24, 25, 256 + size, 65536 + size} {
				l := stated(dice, vals, size, 5)
				for at := range len(l) + 1 {
					for _, cols := range [][]int{{}, {0}, {n - 1}, chosen(dice, n, n)} {
						odd := slices.Insert(slices.Clone(l), at, eq(make([]byte, other), cols...))
						if other != size {
							refused(t, n, odd)
						} else if got := ask(n, odd); got.e == api.ErrArg {
							t.Fatalf("Peel(%d, %v) = %v", n, odd, got)
						}
					}
				}
			}
		}
	}
}

// Only the length of Data counts, not what it could be lengthened to.
func TestOfDataWithSpareCapacity(t *testing.T) {
	whole := []byte{1, 2, 3, 4, 5, 6, 7, 8}
	want := answer{known: []bool{true, true}, vals: [][]byte{{3, 4}, {2, 6}}}
	if got := ask(2, []api.Eq{eq(whole[:2], 0, 1), eq(whole[2:4], 0)}); !same(got, want) {
		t.Errorf("Peel of pieces of one list = %v, want %v", got, want)
	}
	refused(t, 2, []api.Eq{eq(whole[:2], 0, 1), eq(whole[2:5], 0)})
}

// Whatever is wrong comes ahead of a clash, wherever it stands, and several at once
// are no other error.
func TestWrongAheadOfAClash(t *testing.T) {
	clash := []api.Eq{eq([]byte{1}, 0), eq([]byte{2}, 0), eq([]byte{3}), eq([]byte{4}, 1, 2)}
	clashes(t, 4, clash)
	bad := []api.Eq{eq([]byte{0}, 4), eq([]byte{0}, -1), eq([]byte{0}, 1, 1), eq([]byte{0}, 2, 1), eq(nil, 1), eq([]byte{0, 0})}
	for i, a := range bad {
		for at := range len(clash) + 1 {
			one := slices.Insert(slices.Clone(clash), at, a)
			refused(t, 4, one)
			refused(t, -1, one)
			refused(t, api.MaxCols+1, one)
			for _, b := range bad[i:] {
				refused(t, 4, append([]api.Eq{b}, one...))
				refused(t, 4, append(slices.Clip(one), b))
			}
		}
	}
	refused(t, -4, clash)
	refused(t, 65, clash)
	refused(t, 2, clash)
	refused(t, 0, clash)
}

// R3

// broken are lists that Peel refuses.
func broken(n int, l []api.Eq) [][]api.Eq {
	longer := slices.Clone(l)
	if len(l) > 0 {
		longer = append(longer, eq(make([]byte, len(l[0].Data)+1)), eq(slices.Repeat([]byte{1}, len(l[0].Data))))
	}
	return [][]api.Eq{append(slices.Clip(l), eq(nil, n)), append(slices.Clip(l), eq(nil, 1, 0)), longer}
}

// The equations that are passed stand in the midst of longer lists, so that a write
// beside them, into their spare capacity too, is found.
func TestNothingPassedIsModified(t *testing.T) {
	cases(func(dice *rand.Rand, n, size int, vals [][]byte, l []api.Eq) {
		for _, list := range append(broken(n, l), l) {
			datas, colses := []byte{7, 7, 7}, []int{9, 9, 9}
			for _, q := range list {
				datas = slices.Concat(datas, q.Data, []byte{77, 200})
				colses = slices.Concat(colses, q.Cols, []int{-5, 70000})
			}
			eqs := make([]api.Eq, len(list)+4)
			d, c := 3, 3
			for i, q := range list {
				eqs[i+2] = api.Eq{Cols: colses[c : c+len(q.Cols)], Data: datas[d : d+len(q.Data)]}
				c, d = c+len(q.Cols)+2, d+len(q.Data)+2
			}
			oldDatas, oldColses, oldEqs := bytes.Clone(datas), slices.Clone(colses), copied(eqs)
			overwrite(ask(n, eqs[2:2+len(list)]))
			if !bytes.Equal(datas, oldDatas) || !slices.Equal(colses, oldColses) || !sameEqs(eqs, oldEqs) {
				t.Fatalf("Peel(%d, %v), or a write into what it returned, has changed what was passed", n, list)
			}
		}
	})
}

// spoil changes every element, with what the list could be lengthened by.
func spoil(r []byte) {
	r = r[:cap(r)]
	for i := range r {
		r[i] ^= 0x5a
	}
}

// mar does the same to columns.
func mar(cols []int) {
	cols = cols[:cap(cols)]
	for i := range cols {
		cols[i] ^= 0x5a5a
	}
}

// overwrite changes all that an answer has.
func overwrite(a answer) {
	known, vals, rest := a.known[:cap(a.known)], a.vals[:cap(a.vals)], a.rest[:cap(a.rest)]
	for i := range known {
		known[i] = !known[i]
	}
	for i := range vals {
		spoil(vals[i])
		vals[i] = []byte{77}
	}
	for i := range rest {
		spoil(rest[i].Data)
		mar(rest[i].Cols)
		rest[i] = eq([]byte{66}, 6)
	}
}

func TestNothingPassedIsKept(t *testing.T) {
	cases(func(dice *rand.Rand, n, size int, vals [][]byte, l []api.Eq) {
		want := ask(n, copied(l))
		passed := copied(l)
		got := ask(n, passed)
		for i, q := range passed {
			spoil(q.Data)
			mar(q.Cols)
			passed[i] = eq([]byte{5}, 5)
		}
		if !same(got, want) {
			t.Fatalf("what was written into the equations after Peel(%d, %v) is in its answer: %v, want %v", n, l, got, want)
		}
	})
}

func TestAnswersAreNewMemory(t *testing.T) {
	cases(func(dice *rand.Rand, n, size int, vals [][]byte, l []api.Eq) {
		want := wanted(dice, n, l)
		first, second := ask(n, l), ask(n, l)
		overwrite(first)
		if !same(second, want) {
			t.Fatalf("what was written into one answer of Peel(%d, %v) is in another: %v, want %v", n, l, second, want)
		}
		if third := ask(n, l); !same(third, want) {
			t.Fatalf("what was written into one answer of Peel(%d, %v) is in a later one: %v, want %v", n, l, third, want)
		}
	})
}

// Equations that are equal, or that have the very same memory, are left with memory
// of their own; so have the values that are equal.
func TestAnswersShareNothingWithin(t *testing.T) {
	hold := func(n int, l []api.Eq) {
		want, got := ask(n, copied(l)), ask(n, l)
		for i := range got.vals {
			if !bytes.Equal(got.vals[i], want.vals[i]) {
				t.Fatalf("writing into a value of Peel(%d, %v) changes value %d", n, l, i)
			}
			spoil(got.vals[i])
			spoil(append(got.vals[i], 1))
		}
		for i, q := range got.rest {
			if !slices.Equal(q.Cols, want.rest[i].Cols) || !bytes.Equal(q.Data, want.rest[i].Data) {
				t.Fatalf("writing into what Peel(%d, %v) leaves changes equation %d of it", n, l, i)
			}
			spoil(q.Data)
			spoil(append(q.Data, 1))
			mar(q.Cols)
			mar(append(q.Cols, 1))
		}
	}
	cases(func(dice *rand.Rand, n, size int, vals [][]byte, l []api.Eq) {
		hold(n, l)
		hold(n, append(slices.Clip(l), l...))
	})
	data, cols := []byte{4, 2}, []int{0, 1, 2, 3}
	hold(4, []api.Eq{eq(data, cols...), eq(data, cols...), eq(data, 0, 1), eq(data, cols[:2]...)})
	hold(4, []api.Eq{eq(data, cols[:1]...), eq(data, 1), eq(data, cols[3:]...)})
	hold(64, []api.Eq{eq(data, 0), eq(data, 9), eq([]byte{0, 0}, 0, 9), eq([]byte{0, 0}, 9, 10), eq(data, 11, 12), eq(data, 9, 11, 12)})
}

// R5

func TestTheSameAgain(t *testing.T) {
	cases(func(dice *rand.Rand, n, size int, vals [][]byte, l []api.Eq) {
		want := wanted(dice, n, l)
		for _, list := range broken(n, l) {
			ask(n, list)
		}
		ask(-1, l)
		ask(n, []api.Eq{eq([]byte{3})})
		ask(api.MaxCols, stated(dice, values(dice, api.MaxCols, 3), 3, 60))
		for range 2 {
			if got := ask(n, l); !same(got, want) {
				t.Fatalf("Peel(%d, %v) is another one after other calls: %v, want %v", n, l, got, want)
			}
		}
	})
}

// The same equations may be passed by several at once.
func TestManyAtOnce(t *testing.T) {
	dice := rand.New(rand.NewSource(13))
	vals := values(dice, 30, 4)
	l := stated(dice, vals, 4, 28)
	want := wanted(dice, 30, l)
	var wait sync.WaitGroup
	for range 8 {
		wait.Go(func() {
			for range 50 {
				got := ask(30, l)
				if !same(got, want) {
					t.Error("another answer to the same question")
					return
				}
				overwrite(got)
			}
		})
	}
	wait.Wait()
}

func Example() {
	show := func(n int, l ...api.Eq) {
		known, vals, rest, e := peel.Peel(n, l)
		fmt.Println(known, vals, rest, e)
	}
	show(2, eq([]byte{1}, 0), eq([]byte{3}, 0, 1))
	show(4, eq([]byte{9}, 0, 1, 3), eq([]byte{5}, 3), eq([]byte{1}, 1, 3))
	show(4, eq([]byte{9}, 0, 1, 3), eq([]byte{5}, 3))
	show(1, eq([]byte{1}, 0), eq([]byte{3}, 0))
	show(1, eq([]byte{1}, 1))
	// Output:
	// [true true] [[1] [2]] [] 0
	// [true true false true] [[8] [4] [] [5]] [] 0
	// [false false false true] [[] [] [] [5]] [{[0 1] [12]}] 0
	// [] [] [] 10
	// [] [] [] 1
}
