package inact_test

import (
	"fmt"
	"math"
	"math/rand"
	"slices"
	"sync"
	"testing"

	"wellspring/api"
	"wellspring/inact"
)

// answer is what one call of Plan returned.
type answer struct {
	plan api.Plan
	ok   bool
}

func ask(n int, l [][]int) answer {
	p, ok := inact.Plan(n, l)
	return answer{p, ok}
}

func same(a, b answer) bool {
	return a.ok == b.ok && slices.Equal(a.plan.Steps, b.plan.Steps) &&
		slices.Equal(a.plan.Dead, b.plan.Dead) && slices.Equal(a.plan.Left, b.plan.Left)
}

// plan is an answer with the steps given as row, column, row, column ..
func plan(steps, dead, left []int) answer {
	a := answer{plan: api.Plan{Dead: dead, Left: left}, ok: true}
	for i := 0; i < len(steps); i += 2 {
		a.plan.Steps = append(a.plan.Steps, api.Step{Row: steps[i], Col: steps[i+1]})
	}
	return a
}

// upTo are the numbers from a on below b.
func upTo(a, b int) []int {
	var list []int
	for ; a < b; a++ {
		list = append(list, a)
	}
	return list
}

// copied is the list with memory of its own.
func copied(l [][]int) [][]int {
	var c [][]int
	for _, r := range l {
		c = append(c, slices.Clone(r))
	}
	return c
}

// tally is how often something came up in the plans that wanted made.
type tally struct {
	severalSingles int // rows with exactly one open column at the same time
	sameColumn     int // and the same one
	ties           int // columns in equally many rows that are not used, none in more
	notTheLeast    int // a column becomes Dead though a lesser one is open
	inNoRow        int // a Dead column that is in no row
	stepAfterDead  int
}

// work is what wanted knows: which rows have a column, which columns of a row are
// open, and which rows are not used.
type work struct {
	in     map[int]map[int]bool
	unused map[int]map[int]bool
	open   map[int]bool
}

func begin(n int, l [][]int) work {
	w := work{in: map[int]map[int]bool{}, unused: map[int]map[int]bool{}, open: map[int]bool{}}
	for c := range n {
		w.open[c], w.in[c] = true, map[int]bool{}
	}
	for i, r := range l {
		w.unused[i] = map[int]bool{}
		for _, c := range r {
			w.unused[i][c], w.in[c][i] = true, true
		}
	}
	return w
}

// shut takes a column out of all rows.
func (w work) shut(c int) {
	delete(w.open, c)
	for i := range w.in[c] {
		delete(w.unused[i], c)
	}
}

// singles are the unused rows with exactly one open column, in ascending order.
func (w work) singles() []api.Step {
	var list []api.Step
	for i, cols := range w.unused {
		for c := range cols {
			if len(cols) == 1 {
				list = append(list, api.Step{Row: i, Col: c})
			}
		}
	}
	slices.SortFunc(list, func(a, b api.Step) int { return a.Row - b.Row })
	return list
}

// often is in how many unused rows a column is.
func (w work) often(c int) int {
	rows := 0
	for i := range w.in[c] {
		if _, is := w.unused[i]; is {
			rows++
		}
	}
	return rows
}

// ranked are the open columns, those in the most unused rows first, of several the
// least first.
func (w work) ranked() []int {
	var list []int
	for c := range w.open {
		list = append(list, c)
	}
	slices.SortFunc(list, func(a, b int) int {
		if x, y := w.often(a), w.often(b); x != y {
			return y - x
		}
		return a - b
	})
	return list
}

// wanted is what Plan returns by the chapter's words, of rows that may be. It goes
// by the columns: each has the set of its rows.
func wanted(n int, l [][]int, t *tally) answer {
	w, a := begin(n, l), answer{ok: true}
	for len(w.open) > 0 {
		if s := w.singles(); len(s) > 0 {
			t.step(s, a)
			a.plan.Steps = append(a.plan.Steps, s[0])
			delete(w.unused, s[0].Row)
			w.shut(s[0].Col)
			continue
		}
		cols := w.ranked()
		t.dead(w, cols)
		a.plan.Dead = append(a.plan.Dead, cols[0])
		w.shut(cols[0])
	}
	for i := range l {
		if _, is := w.unused[i]; is {
			a.plan.Left = append(a.plan.Left, i)
		}
	}
	return a
}

func (t *tally) step(s []api.Step, a answer) {
	if t == nil {
		return
	}
	for _, other := range s[1:] {
		if other.Col == s[0].Col {
			t.sameColumn++
		} else {
			t.severalSingles++
		}
	}
	if len(a.plan.Dead) > 0 {
		t.stepAfterDead++
	}
}

func (t *tally) dead(w work, cols []int) {
	if t == nil {
		return
	}
	if len(cols) > 1 && w.often(cols[0]) > 0 && w.often(cols[1]) == w.often(cols[0]) {
		t.ties++
	}
	if cols[0] != slices.Min(cols) {
		t.notTheLeast++
	}
	if w.often(cols[0]) == 0 {
		t.inNoRow++
	}
}

// chosen are k of the columns from 0 on below n, in ascending order.
func chosen(dice *rand.Rand, n, k int) []int {
	cols := dice.Perm(n)[:k]
	slices.Sort(cols)
	return cols
}

// some are m rows and more of n columns, of at least so many columns each where n
// has them, and mostly few. Some of them occur several times.
func some(dice *rand.Rand, n, m, least int) [][]int {
	var l [][]int
	for len(l) < m {
		most := []int{0, 1, 2, 2, 3, 3, 4, 8, n}[dice.Intn(9)]
		r := chosen(dice, n, min(n, max(least, dice.Intn(most+1))))
		for range 1 + dice.Intn(4)/3 {
			l = append(l, slices.Clone(r))
		}
	}
	dice.Shuffle(len(l), func(i, j int) { l[i], l[j] = l[j], l[i] })
	return l
}

// cases calls with many lists of rows that may be.
func cases(call func(dice *rand.Rand, n int, l [][]int)) {
	dice := rand.New(rand.NewSource(13))
	for _, n := range []int{0, 1, 2, 3, 4, 5, 8, 20, 33, api.MaxCols - 1, api.MaxCols} {
		for _, least := range []int{0, 1, 2, 3} {
			for _, m := range []int{0, 1, 2, n / 2, n, n + 2, 2*n + 1, 5*n + 3} {
				for range 3 {
					call(dice, n, some(dice, n, m, least))
				}
			}
		}
	}
}

// outside are numbers that n may not be. Cut to 8, 16 or 32 bits, or without their
// sign, many of them could be.
func outside() []int {
	list := []int{
		-1, -2, -64, -65, 65, 66, 127, 128, 255, 256, 1 << 16, 1 << 32, 1 << 62, math.MaxInt32, math.MaxInt32 + 1,
		math.MaxInt, math.MaxInt - 1, math.MinInt, math.MinInt + 1, math.MinInt32, math.MinInt32 - 1, -1 << 32, -1 << 62,
	}
	for _, n := range []int{1, 2, 63, 64} {
		list = append(list, 256+n, 1<<16+n, 1<<32+n, n-256, n-1<<16, n-1<<32, n+math.MinInt)
	}
	return list
}

// wrongRows are rows that n columns may not have, for n of at least 4.
func wrongRows(n int) [][]int {
	list := [][]int{
		{0, 0}, {1, 1}, {n - 1, n - 1}, {0, 1, 1}, {0, 0, 1}, {0, 1, 2, 2}, {1, 0}, {2, 1}, {0, 2, 1}, {1, 2, 0}, {n - 1, 0},
		{0, 1, 0}, {2, 3, 2}, {-1, 0}, {0, -1}, {-2, -1}, {0, n}, {n - 1, n}, {n, n - 1}, {n, n}, {n, n + 1}, {-1, n}, {0, 2, n},
		{1, 0, 2, 3}, {0, 1, 3, 2}, {n, 1, 1, -1}, {-1, -1}, {n + 1, n}, slices.Repeat([]int{0}, 70),
	}
	for _, c := range []int{
		-1, -2, -n, n, n + 1, 2 * n, 64, 65, 255, 256, 257, -255, -256, 1 << 16, 1 << 32, 1<<32 + 1, 1 - 1<<32,
		math.MaxInt32, math.MinInt32, math.MaxInt, math.MaxInt - 1, math.MinInt, math.MinInt + 1,
	} {
		list = append(list, []int{c}, []int{c, c}, []int{0, 1, c}, []int{c, 1, 2})
	}
	return list
}

// refused holds Plan of what may not be against false.
func refused(t *testing.T, n int, l [][]int) {
	t.Helper()
	if got := ask(n, l); !same(got, answer{}) {
		t.Fatalf("Plan(%d, %v) = %v, want false alone", n, l, got)
	}
}

// P13.1

func TestWrittenOut(t *testing.T) {
	for _, c := range []struct {
		n    int
		l    [][]int
		want answer
	}{
		{1, nil, plan(nil, []int{0}, nil)}, // the chapter's example
		{0, nil, plan(nil, nil, nil)},
		{0, [][]int{{}, {}, {}}, plan(nil, nil, []int{0, 1, 2})},
		{3, nil, plan(nil, []int{0, 1, 2}, nil)},
		{2, [][]int{{}, {}}, plan(nil, []int{0, 1}, []int{0, 1})},
		{1, [][]int{{0}}, plan([]int{0, 0}, nil, nil)},
		{1, [][]int{{}, {0}, {0}}, plan([]int{1, 0}, nil, []int{0, 2})},
		// 0 has one open column only after 1 was used, and is then the first again
		{2, [][]int{{0, 1}, {1}, {0}}, plan([]int{1, 1, 0, 0}, nil, []int{2})},
		{3, [][]int{{2}, {1}, {0}}, plan([]int{0, 2, 1, 1, 2, 0}, nil, nil)},
		{3, [][]int{{2}, {2}, {1, 2}, {0, 1}}, plan([]int{0, 2, 2, 1, 3, 0}, nil, []int{1})},
		// no row with one: of columns in equally many rows the least
		{2, [][]int{{0, 1}}, plan([]int{0, 1}, []int{0}, nil)},
		{3, [][]int{{0, 1}, {1, 2}, {0, 2}}, plan([]int{0, 1, 1, 2}, []int{0}, []int{2})},
		// 2 is in the most rows; 3 is in none
		{4, [][]int{{0, 1, 2}, {1, 2}, {0, 2}}, plan([]int{1, 1, 0, 0}, []int{2, 3}, []int{2})},
		// rows that are used do not count: 0 is in three rows, 3 and 4 in two that are not used
		{5, [][]int{{3, 4}, {0}, {0, 1}, {0, 1, 2}, {3, 4}}, plan([]int{1, 0, 2, 1, 3, 2, 0, 4}, []int{3}, []int{4})},
		// a row that lost its columns to Dead ones is left
		{2, [][]int{{0, 1}, {0, 1}, {0, 1}}, plan([]int{0, 1}, []int{0}, []int{1, 2})},
		// several times Dead, each time of what is left
		{5, [][]int{{0, 1, 2}, {1, 2, 3}, {2, 3, 4}}, plan([]int{0, 0, 1, 3, 2, 4}, []int{2, 1}, nil)},
		{64, [][]int{{0, 63}, {63}, {62, 63}}, plan([]int{1, 63, 0, 0, 2, 62}, upTo(1, 62), nil)},
		{65, nil, answer{}},
		{-1, nil, answer{}},
		{1, [][]int{{1}}, answer{}},
		{1, [][]int{{0}, {-1}}, answer{}},
		{2, [][]int{{0, 1}, {1, 0}}, answer{}},
		{2, [][]int{{0}, {1, 1}}, answer{}},
	} {
		if got := ask(c.n, c.l); !same(got, c.want) {
			t.Errorf("Plan(%d, %v) = %v, want %v", c.n, c.l, got, c.want)
		}
	}
}

func TestByTheChapter(t *testing.T) {
	var seen tally
	cases(func(dice *rand.Rand, n int, l [][]int) {
		if got, want := ask(n, l), wanted(n, l, &seen); !same(got, want) {
			t.Fatalf("Plan(%d, %v) = %v, want %v", n, l, got, want)
		}
	})
	for what, often := range map[string]int{
		"several rows with one open column": seen.severalSingles, "several rows with the same one": seen.sameColumn,
		"columns in equally many rows": seen.ties, "a Dead one that is not the least": seen.notTheLeast,
		"a Dead one in no row": seen.inNoRow, "a step after a Dead one": seen.stepAfterDead,
	} {
		if often < 300 {
			t.Errorf("%s: only %d times", what, often)
		}
	}
}

// subsets are all rows of n columns.
func subsets(n int) [][]int {
	var list [][]int
	for mask := range 1 << n {
		var r []int
		for c := range n {
			if mask>>c&1 == 1 {
				r = append(r, c)
			}
		}
		list = append(list, r)
	}
	return list
}

// lists calls with each list of m of the rows.
func lists(rows [][]int, m int, l [][]int, call func(l [][]int)) {
	if len(l) == m {
		call(l)
		return
	}
	for _, r := range rows {
		lists(rows, m, append(l, r), call)
	}
}

func TestEachShortList(t *testing.T) {
	for _, c := range []struct{ n, most int }{{0, 3}, {1, 5}, {2, 5}, {3, 4}, {4, 3}, {5, 2}} {
		for m := range c.most + 1 {
			lists(subsets(c.n), m, nil, func(l [][]int) {
				if got, want := ask(c.n, l), wanted(c.n, l, nil); !same(got, want) {
					t.Fatalf("Plan(%d, %v) = %v, want %v", c.n, l, got, want)
				}
			})
		}
	}
}

// Each column is in one Step or in Dead, once; each row in one Step or in Left,
// once, and Left ascends. A Step's row has its column, and its others were told or
// put off before.
func TestEachColumnAndRowOnce(t *testing.T) {
	cases(func(dice *rand.Rand, n int, l [][]int) {
		got := ask(n, l)
		cols, rows := slices.Clone(got.plan.Dead), slices.Clone(got.plan.Left)
		before := slices.Clone(got.plan.Dead)
		for _, s := range got.plan.Steps {
			cols, rows = append(cols, s.Col), append(rows, s.Row)
			before = append(before, s.Col)
			for _, c := range l[s.Row] {
				if !slices.Contains(before, c) {
					t.Fatalf("Plan(%d, %v) = %v, whose step %v does not know %d", n, l, got, s, c)
				}
			}
			if !slices.Contains(l[s.Row], s.Col) {
				t.Fatalf("Plan(%d, %v) = %v, whose step %v is by a row without its column", n, l, got, s)
			}
		}
		slices.Sort(cols)
		slices.Sort(rows)
		if !got.ok || !slices.Equal(cols, upTo(0, n)) || !slices.Equal(rows, upTo(0, len(l))) || !slices.IsSorted(got.plan.Left) {
			t.Fatalf("Plan(%d, %v) = %v has not each column and row once", n, l, got)
		}
	})
}

func TestWithoutRowsOrColumns(t *testing.T) {
	for n := range api.MaxCols + 1 {
		for _, rows := range []int{0, 1, 2, 100} {
			for _, none := range [][]int{nil, {}} {
				l := slices.Repeat([][]int{none}, rows)
				if got, want := ask(n, l), plan(nil, upTo(0, n), upTo(0, rows)); !same(got, want) {
					t.Fatalf("Plan(%d, %v) = %v, want %v", n, l, got, want)
				}
			}
		}
	}
	if got := ask(0, [][]int{}); !same(got, plan(nil, nil, nil)) {
		t.Error("Plan(0, an empty list) =", got)
	}
}

// Each column may be the one that a row tells, and each the one that is put off.
func TestOfEachColumn(t *testing.T) {
	for n := 1; n <= api.MaxCols; n++ {
		for c := range n {
			others := slices.Concat(upTo(0, c), upTo(c+1, n))
			one := [][]int{{}, {c}, {}, {c}}
			if got, want := ask(n, one), plan([]int{1, c}, others, []int{0, 2, 3}); !same(got, want) {
				t.Fatalf("Plan(%d, %v) = %v, want %v", n, one, got, want)
			}
			if n < 3 {
				continue
			}
			a, b := others[0], others[len(others)-1]
			pairs := [][]int{pair(a, c), pair(c, b)}
			dead := append([]int{c}, slices.DeleteFunc(others, func(x int) bool { return x == a || x == b })...)
			if got, want := ask(n, pairs), plan([]int{0, a, 1, b}, dead, nil); !same(got, want) {
				t.Fatalf("Plan(%d, %v) = %v, want %v", n, pairs, got, want)
			}
		}
	}
}

func pair(a, b int) []int { return []int{min(a, b), max(a, b)} }

// Of rows that have exactly one open column at the same time the first is used,
// whatever their columns, and of those with the same one the others are left.
func TestTheFirstOfSeveralRows(t *testing.T) {
	dice := rand.New(rand.NewSource(2))
	for n := 1; n <= api.MaxCols; n++ {
		for range 20 {
			var l [][]int
			var want answer
			told := map[int]bool{}
			for i := range 2 * n {
				c := dice.Intn(n)
				l = append(l, []int{c})
				if told[c] {
					want.plan.Left = append(want.plan.Left, i)
				} else {
					want.plan.Steps = append(want.plan.Steps, api.Step{Row: i, Col: c})
				}
				told[c] = true
			}
			want.plan.Dead, want.ok = slices.DeleteFunc(upTo(0, n), func(c int) bool { return told[c] }), true
			if got := ask(n, l); !same(got, want) {
				t.Fatalf("Plan(%d, %v) = %v, want %v", n, l, got, want)
			}
		}
	}
}

// A chain whose last row begins it: each step makes one more row the first.
func TestOfAChain(t *testing.T) {
	for n := 1; n <= api.MaxCols; n++ {
		var back, on, steps, onSteps []int
		var l, m [][]int
		for c := range n - 1 {
			l = append(l, []int{c, c + 1})
			m = append(m, []int{n - 2 - c, n - 1 - c})
		}
		l, m = append(l, []int{n - 1}), append(m, []int{0})
		for i := n - 1; i >= 0; i-- {
			steps = append(steps, i, i)
			onSteps = append(onSteps, i, n-1-i)
		}
		if got, want := ask(n, l), plan(steps, back, nil); !same(got, want) {
			t.Fatalf("Plan(%d, %v) = %v, want %v", n, l, got, want)
		}
		if got, want := ask(n, m), plan(onSteps, on, nil); !same(got, want) {
			t.Fatalf("Plan(%d, %v) = %v, want %v", n, m, got, want)
		}
	}
}

// A ring, where nothing begins until a column is put off, the least; with one more
// row that has the column c, c is in the most rows.
func TestOfARing(t *testing.T) {
	for n := 4; n <= api.MaxCols; n++ {
		var ring [][]int
		for c := range n {
			ring = append(ring, pair(c, (c+1)%n))
		}
		if got := ask(n, ring); !slices.Equal(got.plan.Dead, []int{0}) || len(got.plan.Steps) != n-1 || len(got.plan.Left) != 1 {
			t.Fatalf("Plan(%d, %v) = %v", n, ring, got)
		}
		for c := range n {
			// The chord's other end is in three rows too: the lesser one is put off.
			more := append(slices.Clip(ring), pair(c, (c+2)%n))
			got, want := ask(n, more), wanted(n, more, nil)
			if first := min(c, (c+2)%n); got.plan.Dead[0] != first || !same(got, want) {
				t.Fatalf("Plan(%d, %v) = %v, want %v, of which %d is Dead first", n, more, got, want, first)
			}
			// Thrice the same row: in it both columns are in the most rows.
			more = append(slices.Clip(ring), ring[c], ring[c])
			got, want = ask(n, more), wanted(n, more, nil)
			if first := ring[c][0]; got.plan.Dead[0] != first || !same(got, want) {
				t.Fatalf("Plan(%d, %v) = %v, want %v, of which %d is Dead first", n, more, got, want, first)
			}
		}
	}
}

// How many rows a column is in counts, not how many columns they have.
func TestRowsCountNotColumns(t *testing.T) {
	long, short := upTo(0, 60), []int{61, 62, 63}
	for longs := range 5 {
		for shorts := range 5 {
			l := slices.Concat(slices.Repeat([][]int{long}, longs), slices.Repeat([][]int{short}, shorts))
			first := 0
			if shorts > longs {
				first = 61
			}
			got, want := ask(64, l), wanted(64, l, nil)
			if got.plan.Dead[0] != first || !same(got, want) {
				t.Fatalf("Plan(64, %d and %d rows) = %v, want %v", longs, shorts, got, want)
			}
		}
	}
}

// Rows that occur once more behind all others are left, and change nothing else.
func TestRepeatsAreLeft(t *testing.T) {
	cases(func(dice *rand.Rand, n int, l [][]int) {
		want := ask(n, l)
		want.plan.Left = append(slices.Clip(want.plan.Left), upTo(len(l), 4*len(l))...)
		if got := ask(n, slices.Repeat(l, 4)); !same(got, want) {
			t.Fatalf("Plan(%d, %v four times) = %v, want %v", n, l, got, want)
		}
	})
}

// Rows without columns shift the others, and are left.
func TestRowsWithoutColumnsAreLeft(t *testing.T) {
	cases(func(dice *rand.Rand, n int, l [][]int) {
		var spaced [][]int
		for _, r := range l {
			spaced = append(spaced, nil, r)
		}
		once, got := ask(n, l), ask(n, spaced)
		want := answer{api.Plan{Dead: once.plan.Dead}, true}
		for i := range l {
			want.plan.Left = append(want.plan.Left, 2*i)
			if slices.Contains(once.plan.Left, i) {
				want.plan.Left = append(want.plan.Left, 2*i+1)
			}
		}
		for _, s := range once.plan.Steps {
			want.plan.Steps = append(want.plan.Steps, api.Step{Row: 2*s.Row + 1, Col: s.Col})
		}
		if !same(got, want) {
			t.Fatalf("Plan(%d, %v) = %v, want %v", n, spaced, got, want)
		}
	})
}

// Columns that no row has are put off after all others, in ascending order.
func TestColumnsInNoRowComeLast(t *testing.T) {
	cases(func(dice *rand.Rand, n int, l [][]int) {
		want := ask(n, l)
		want.plan.Dead = append(slices.Clip(want.plan.Dead), upTo(n, api.MaxCols)...)
		if got := ask(api.MaxCols, l); !same(got, want) {
			t.Fatalf("Plan(%d, %v) = %v, want %v", api.MaxCols, l, got, want)
		}
	})
}

func TestOfManyRows(t *testing.T) {
	dice := rand.New(rand.NewSource(6))
	for _, l := range [][][]int{
		some(dice, 40, 8000, 0), some(dice, 40, 8000, 2), some(dice, 40, 8000, 9),
		slices.Repeat([][]int{{3, 9}, {3, 4, 9}, {4}, {}, upTo(0, 40)}, 2000),
	} {
		if got, want := ask(40, l), wanted(40, l, nil); !same(got, want) {
			t.Errorf("Plan of %d rows is another one: %v, %v", len(l), got.plan.Steps, got.plan.Dead)
		}
	}
}

// So many rows that their number does not fit into 16 bits.
func TestOfRowsBeyond16Bits(t *testing.T) {
	const many = 1<<16 + 1
	l := slices.Concat([][]int{{0, 3}, {0, 3}}, slices.Repeat([][]int{{1, 2}}, many))
	want := plan([]int{2, 2, 0, 3}, []int{1, 0}, append([]int{1}, upTo(3, len(l))...))
	if got := ask(4, l); !same(got, want) {
		t.Errorf("Plan of %d rows: %v, %v, %d are left", len(l), got.plan.Steps, got.plan.Dead, len(got.plan.Left))
	}
}

// P13.1: false

func TestOfWrongN(t *testing.T) {
	for _, n := range outside() {
		for _, l := range [][][]int{nil, {}, {{}}, {{0}}, {{0, 1}, {1}}, {{n - 1}}, {{0, 0}}, {{-1}, {n}}} {
			refused(t, n, l)
		}
	}
	for _, n := range []int{0, api.MaxCols} { // one step before it may be
		if got := ask(n, nil); !same(got, plan(nil, upTo(0, n), nil)) {
			t.Errorf("Plan(%d, none) = %v", n, got)
		}
	}
}

// A wrong row stands anywhere among right ones, such too by which all columns are
// told before it would be looked at; and several wrong ones stand together.
func TestOfWrongRows(t *testing.T) {
	dice := rand.New(rand.NewSource(10))
	for _, n := range []int{4, 5, 20, 63, 64} {
		var units [][]int
		for c := range n {
			units = append(units, []int{c})
		}
		wrong := wrongRows(n)
		for i, bad := range wrong {
			refused(t, n, [][]int{bad})
			refused(t, n, [][]int{bad, wrong[dice.Intn(len(wrong))]})
			refused(t, n, append(slices.Clip(units), bad))
			l := some(dice, n, 9, 0)
			for at := range len(l) + 1 {
				refused(t, n, slices.Insert(slices.Clone(l), at, bad))
			}
			refused(t, n, slices.Concat(wrong[i:], l, wrong[:i]))
			refused(t, -n, [][]int{bad})
			refused(t, n+256, [][]int{bad})
		}
		if got := ask(n, units); !got.ok {
			t.Fatalf("Plan(%d, %v) = %v", n, units, got)
		}
	}
}

func TestOfEachNumberOfColumns(t *testing.T) {
	for n := range api.MaxCols + 1 {
		for c := -3; c <= api.MaxCols+3; c++ {
			l := [][]int{{c}}
			if c < 0 || c >= n {
				refused(t, n, l)
			} else if got := ask(n, l); !got.ok {
				t.Fatalf("Plan(%d, %v) = %v", n, l, got)
			}
		}
		all := [][]int{upTo(0, n)}
		if got := ask(n, all); !got.ok {
			t.Fatalf("Plan(%d, %v) = %v", n, all, got)
		}
		refused(t, n, [][]int{upTo(0, n+1)})
		refused(t, n, [][]int{upTo(-1, n)})
	}
}

// Each two numbers that a row may begin or end with.
func TestOfEachPair(t *testing.T) {
	for _, n := range []int{1, 2, 5, api.MaxCols} {
		for a := -2; a <= n+1; a++ {
			for b := -2; b <= n+1; b++ {
				l := [][]int{{a, b}}
				if may := a >= 0 && a < b && b < n; !may {
					refused(t, n, l)
					continue
				}
				others := slices.Concat(upTo(0, a), upTo(a+1, b), upTo(b+1, n))
				if got, want := ask(n, l), plan([]int{0, b}, append([]int{a}, others...), nil); !same(got, want) {
					t.Fatalf("Plan(%d, %v) = %v, want %v", n, l, got, want)
				}
			}
		}
	}
}

// Only the numbers that a row has count, not what it could be lengthened to.
func TestOfSpareCapacity(t *testing.T) {
	whole := []int{0, 1, 1, 0, 99, -5}
	l := [][]int{whole[:2], whole[1:2], whole[4:4], whole[3:4]}
	if got, want := ask(2, l), plan([]int{1, 1, 0, 0}, nil, []int{2, 3}); !same(got, want) {
		t.Errorf("Plan of pieces of one list = %v, want %v", got, want)
	}
	refused(t, 2, append(l, whole[4:5]))
	refused(t, 2, append(l, whole[1:3]))
}

// R3

// broken are lists that Plan refuses.
func broken(n int, l [][]int) [][][]int {
	return [][][]int{append(slices.Clip(l), []int{n}), append([][]int{{1, 0}}, l...), append(slices.Clip(l), []int{-1, n})}
}

// untouched reports whether two rows are the same piece of the same memory.
func untouched(a, b []int) bool {
	return len(a) == len(b) && cap(a) == cap(b) && (cap(a) == 0 || &a[:1][0] == &b[:1][0])
}

// The rows that are passed stand in the midst of a longer list, so that a write
// beside them, into their spare capacity too, is found.
func TestNothingPassedIsModified(t *testing.T) {
	cases(func(dice *rand.Rand, n int, l [][]int) {
		for _, list := range append(broken(n, l), l) {
			numbers := []int{9, 9, 9}
			for _, r := range list {
				numbers = slices.Concat(numbers, r, []int{-5, 70000})
			}
			rows := make([][]int, len(list)+4)
			at := 3
			for i, r := range list {
				rows[i+2] = numbers[at : at+len(r)]
				at += len(r) + 2
			}
			oldNumbers, oldRows := slices.Clone(numbers), slices.Clone(rows)
			overwrite(ask(n, rows[2:2+len(list)]))
			if !slices.Equal(numbers, oldNumbers) || !slices.EqualFunc(rows, oldRows, untouched) {
				t.Fatalf("Plan(%d, %v), or a write into what it returned, has changed what was passed", n, list)
			}
		}
	})
}

// mar changes every number, with what the list could be lengthened by.
func mar(list []int) {
	list = list[:cap(list)]
	for i := range list {
		list[i] ^= 0x5a5a
	}
}

// marSteps does the same to steps.
func marSteps(steps []api.Step) {
	steps = steps[:cap(steps)]
	for i := range steps {
		steps[i] = api.Step{Row: steps[i].Row ^ 0x5a5a, Col: steps[i].Col ^ 0x5a5a}
	}
}

// overwrite changes all that an answer has.
func overwrite(a answer) {
	marSteps(a.plan.Steps)
	mar(a.plan.Dead)
	mar(a.plan.Left)
}

func TestNothingPassedIsKept(t *testing.T) {
	cases(func(dice *rand.Rand, n int, l [][]int) {
		want := wanted(n, l, nil)
		passed := copied(l)
		got := ask(n, passed)
		for i, r := range passed {
			mar(r)
			passed[i] = []int{5, 5}
		}
		if !same(got, want) {
			t.Fatalf("what was written into the rows after Plan(%d, %v) is in its answer: %v, want %v", n, l, got, want)
		}
	})
}

func TestAnswersAreNewMemory(t *testing.T) {
	cases(func(dice *rand.Rand, n int, l [][]int) {
		want := wanted(n, l, nil)
		first, second := ask(n, l), ask(n, l)
		overwrite(first)
		if !same(second, want) {
			t.Fatalf("what was written into one answer of Plan(%d, %v) is in another: %v, want %v", n, l, second, want)
		}
		if third := ask(n, l); !same(third, want) {
			t.Fatalf("what was written into one answer of Plan(%d, %v) is in a later one: %v, want %v", n, l, third, want)
		}
	})
}

// The two lists of numbers that an answer has share no memory, nor what they could be
// lengthened by.
func TestAnswersShareNothingWithin(t *testing.T) {
	cases(func(dice *rand.Rand, n int, l [][]int) {
		want := wanted(n, l, nil)
		first, second := ask(n, l), ask(n, l)
		mar(first.plan.Dead)
		mar(second.plan.Left)
		if !slices.Equal(first.plan.Left, want.plan.Left) || !slices.Equal(second.plan.Dead, want.plan.Dead) {
			t.Fatalf("writing into one list of Plan(%d, %v) changes the other one", n, l)
		}
	})
}

// R5

func TestTheSameAgain(t *testing.T) {
	cases(func(dice *rand.Rand, n int, l [][]int) {
		want := wanted(n, l, nil)
		for _, list := range broken(n, l) {
			refused(t, n, list)
		}
		refused(t, -1, l)
		ask(n, [][]int{{}})
		ask(api.MaxCols, some(dice, api.MaxCols, 60, 0))
		for range 2 {
			if got := ask(n, l); !same(got, want) {
				t.Fatalf("Plan(%d, %v) is another one after other calls: %v, want %v", n, l, got, want)
			}
		}
	})
}

// The same rows may be passed by several at once.
func TestManyAtOnce(t *testing.T) {
	dice := rand.New(rand.NewSource(13))
	l := some(dice, 30, 28, 2)
	want := wanted(30, l, nil)
	var wait sync.WaitGroup
	for range 8 {
		wait.Go(func() {
			for range 50 {
				got := ask(30, l)
				if !same(got, want) {
					t.Error("another answer to the same question")
					return
				}
				overwrite(got)
			}
		})
	}
	wait.Wait()
}

func Example() {
	show := func(n int, l ...[]int) { fmt.Println(inact.Plan(n, l)) }
	show(1)
	show(2, []int{0, 1}, []int{1})
	show(4, []int{0, 1, 2}, []int{1, 2}, []int{0, 2})
	show(2, []int{0}, []int{1, 0})
	// Output:
	// {[] [0] []} true
	// {[{1 1} {0 0}] [] []} true
	// {[{1 1} {0 0}] [2 3] [2]} true
	// {[] [] []} false
}
