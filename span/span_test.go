package span_test

import (
	"bytes"
	"fmt"
	"math"
	"math/rand"
	"runtime"
	"slices"
	"sync"
	"testing"
	"weak"

	"wellspring/api"
	"wellspring/gf"
	"wellspring/mat"
	"wellspring/row"
	"wellspring/span"
)

// eachField runs a test with a Field that New made and with a nil one, which
// must answer alike.
func eachField(t *testing.T, test func(t *testing.T, f *gf.Field)) {
	t.Run("new", func(t *testing.T) { test(t, gf.New()) })
	t.Run("nil", func(t *testing.T) { test(t, nil) })
}

// same tells whether two lists have equal rows in the same order.
func same(a, b [][]byte) bool { return slices.EqualFunc(a, b, bytes.Equal) }

// copied is a with rows of its own.
func copied(a [][]byte) [][]byte {
	c := make([][]byte, len(a))
	for i, r := range a {
		c[i] = bytes.Clone(r)
	}
	return c
}

// sizes are the lengths of rows that are tried.
func sizes() []int { return []int{1, 2, 3, 5, 8, 20, api.MaxCols - 1, api.MaxCols} }

// some is a row of any elements, 0 every other time.
func some(dice *rand.Rand, n int) []byte {
	r := make([]byte, n)
	for i := range r {
		r[i] = byte(dice.Intn(256) * dice.Intn(2))
	}
	return r
}

// filled is a Span to which the rows of a list were added.
func filled(f *gf.Field, n int, list [][]byte) *span.Span {
	s := span.New(f, n)
	for _, r := range list {
		s.Add(r)
	}
	return s
}

// reduced is rows of n elements in reduced row echelon form, and the columns in
// which they begin.
func reduced(dice *rand.Rand, rank, n int) (list [][]byte, begins []int) {
	begins = dice.Perm(n)[:rank]
	slices.Sort(begins)
	for i, at := range begins {
		r := some(dice, n)
		clear(r[:at])
		for _, other := range begins {
			r[other] = 0
		}
		r[begins[i]] = 1
		list = append(list, r)
	}
	return list, begins
}

// inside is a row of n elements in the space of the rows of a list.
func inside(dice *rand.Rand, n int, list [][]byte) []byte {
	g := gf.New()
	sum := make([]byte, n)
	for _, r := range list {
		c := byte(dice.Intn(256))
		for k := range r {
			sum[k] ^= g.Mul(c, r[k])
		}
	}
	return sum
}

// mixed is rows that span what the rows of a list do, with more that say
// nothing new, in any order.
func mixed(dice *rand.Rand, n int, list [][]byte, more int) [][]byte {
	g := gf.New()
	out := copied(list)
	for range 6 * len(out) {
		to, from := dice.Intn(len(out)), dice.Intn(len(out))
		c := byte(dice.Intn(255) + 1)
		for k := range n {
			if to == from {
				out[to][k] = g.Mul(c, out[to][k])
			} else {
				out[to][k] ^= g.Mul(c, out[from][k])
			}
		}
	}
	for range more {
		out = append(out, inside(dice, n, list))
	}
	dice.Shuffle(len(out), func(i, j int) { out[i], out[j] = out[j], out[i] })
	return out
}

// free is a row of n elements, not all 0, with a 0 at every place where a row
// begins. There is none where a row begins in each column.
func free(dice *rand.Rand, n int, begins []int) []byte {
	r := some(dice, n)
	for c := range r {
		if !slices.Contains(begins, c) {
			r[c] = byte(dice.Intn(255) + 1)
			break
		}
	}
	for _, c := range begins {
		r[c] = 0
	}
	return r
}

// sum is a and b, element by element.
func sum(a, b []byte) []byte {
	c := bytes.Clone(a)
	for i := range c {
		c[i] ^= b[i]
	}
	return c
}

// tells holds all that a Span tells of itself against the rows that were added
// to it.
func tells(t *testing.T, s *span.Span, added [][]byte) {
	t.Helper()
	if got, want := s.Rows(), mat.Reduce(nil, added); !same(got, want) {
		t.Fatalf("Rows after %v: %v, want %v", added, got, want)
	}
	if got, want := s.Rank(), mat.Rank(nil, added); got != want {
		t.Fatalf("Rank after %v: %d, want %d", added, got, want)
	}
}

// leaves holds what Rest and Has answer for a row against what must be left.
func leaves(t *testing.T, s *span.Span, r, want []byte) {
	t.Helper()
	if got, ok := s.Rest(r); !ok || !bytes.Equal(got, want) {
		t.Fatalf("Rest(%v) = %v, %v, want %v, true, with rows %v", r, got, ok, want, s.Rows())
	}
	if got := s.Has(r); got != (row.Lead(want) < 0) {
		t.Fatalf("Has(%v) = %v, with rows %v", r, got, s.Rows())
	}
}

// refuses holds what a Span answers for a row of another length: nothing, and
// nothing is done.
func refuses(t *testing.T, s *span.Span, r []byte) {
	t.Helper()
	before := s.Rows()
	if s.Add(r) || s.Has(r) {
		t.Fatalf("Add or Has is true for a row of %d: %v", len(r), r)
	}
	if got, ok := s.Rest(r); len(got) != 0 || ok {
		t.Fatalf("Rest of a row of %d: %v, %v, want none, false", len(r), got, ok)
	}
	if got := s.Rows(); !same(got, before) || s.Rank() != len(before) {
		t.Fatalf("Add of a row of %d changes %v to %v", len(r), before, got)
	}
}

// P4.1: New

func TestNewOfEachLength(t *testing.T) {
	eachField(t, func(t *testing.T, f *gf.Field) {
		for n := range api.MaxCols + 1 {
			s := span.New(f, n)
			if s == nil {
				t.Fatalf("New of %d is nil", n)
			}
			if s.Rank() != 0 || len(s.Rows()) != 0 {
				t.Errorf("New of %d has rank %d, rows %v", n, s.Rank(), s.Rows())
			}
			leaves(t, s, make([]byte, n), make([]byte, n))
			for at := range n {
				leaves(t, s, row.Unit(n, at), row.Unit(n, at))
			}
			refuses(t, s, make([]byte, n+1))
		}
	})
}

func TestNewOfWhatThereIsNot(t *testing.T) {
	eachField(t, func(t *testing.T, f *gf.Field) {
		for _, n := range []int{
			-1, -2, -api.MaxCols, math.MinInt32, math.MinInt, math.MinInt + 1,
			api.MaxCols + 1, api.MaxCols + 2, 2 * api.MaxCols, 255, 256, 1 << 16, 1 << 32, math.MaxInt32, math.MaxInt,
		} {
			if span.New(f, n) != nil {
				t.Errorf("New of %d is not nil", n)
			}
		}
	})
}

// P4.1: a nil Span

func TestNilSpan(t *testing.T) {
	for _, s := range []*span.Span{nil, span.New(gf.New(), -1), span.New(nil, api.MaxCols+1)} {
		for _, r := range [][]byte{nil, {}, {0}, {1}, {0, 0, 0}, make([]byte, api.MaxCols), make([]byte, api.MaxCols+1)} {
			refuses(t, s, r)
		}
		if s.Rank() != 0 || len(s.Rows()) != 0 {
			t.Errorf("a nil Span has rank %d, rows %v", s.Rank(), s.Rows())
		}
		if s.Clone() != nil {
			t.Error("the Clone of a nil Span is not nil")
		}
	}
}

// P4.1: Add, with Rank and Rows

func TestAddWrittenOut(t *testing.T) {
	type step struct {
		add  []byte
		want bool
		rows [][]byte
	}
	eachField(t, func(t *testing.T, f *gf.Field) {
		for _, steps := range [][]step{
			{ // the second Add of the same row, the chapter's example
				{[]byte{1, 1}, true, [][]byte{{1, 1}}}, {[]byte{1, 1}, false, [][]byte{{1, 1}}},
			},
			{ // 2 times 128 is 27
				{[]byte{2, 27}, true, [][]byte{{1, 128}}}, {[]byte{1, 128}, false, [][]byte{{1, 128}}},
				{[]byte{1, 129}, true, [][]byte{{1, 0}, {0, 1}}}, {[]byte{77, 88}, false, [][]byte{{1, 0}, {0, 1}}},
			},
			{ // the last column first
				{[]byte{0, 0, 9}, true, [][]byte{{0, 0, 1}}}, {[]byte{0, 7, 5}, true, [][]byte{{0, 1, 0}, {0, 0, 1}}},
				{[]byte{0, 3, 3}, false, [][]byte{{0, 1, 0}, {0, 0, 1}}},
				{[]byte{2, 4, 6}, true, [][]byte{{1, 0, 0}, {0, 1, 0}, {0, 0, 1}}},
			},
			{ // a row that begins between two that are there
				{[]byte{1, 2, 0, 4}, true, [][]byte{{1, 2, 0, 4}}},
				{[]byte{0, 0, 1, 7}, true, [][]byte{{1, 2, 0, 4}, {0, 0, 1, 7}}},
				{[]byte{0, 1, 0, 0}, true, [][]byte{{1, 0, 0, 4}, {0, 1, 0, 0}, {0, 0, 1, 7}}},
				{[]byte{1, 1, 1, 3}, false, [][]byte{{1, 0, 0, 4}, {0, 1, 0, 0}, {0, 0, 1, 7}}},
			},
			{ // zero rows
				{[]byte{0, 0}, false, nil}, {[]byte{0, 3}, true, [][]byte{{0, 1}}}, {[]byte{0, 0}, false, [][]byte{{0, 1}}},
			},
			{ // rows too short and too long
				{[]byte{1, 2}, true, [][]byte{{1, 2}}}, {[]byte{1}, false, [][]byte{{1, 2}}},
				{[]byte{0, 1, 0}, false, [][]byte{{1, 2}}}, {nil, false, [][]byte{{1, 2}}},
			},
			{{[]byte{5}, true, [][]byte{{1}}}, {[]byte{9}, false, [][]byte{{1}}}, {[]byte{0}, false, [][]byte{{1}}}},
		} {
			s := span.New(f, len(steps[0].add))
			for i, x := range steps {
				if got := s.Add(x.add); got != x.want {
					t.Fatalf("step %d of %v: Add(%v) = %v", i, steps, x.add, got)
				}
				if got := s.Rows(); !same(got, x.rows) || s.Rank() != len(x.rows) {
					t.Fatalf("step %d of %v: rows %v, rank %d, want %v", i, steps, got, s.Rank(), x.rows)
				}
			}
		}
	})
}

// One by one: after each row, the new ones and the others, all that is told is
// that of the rows until then.
func TestAddOneByOne(t *testing.T) {
	dice := rand.New(rand.NewSource(1))
	eachField(t, func(t *testing.T, f *gf.Field) {
		for _, n := range sizes() {
			for range 6 {
				base, _ := reduced(dice, dice.Intn(n+1), n)
				list := mixed(dice, n, base, 6)
				s := span.New(f, n)
				for i, r := range list {
					want := mat.Rank(nil, list[:i+1]) > mat.Rank(nil, list[:i])
					if got := s.Add(r); got != want {
						t.Fatalf("Add(%v) after %v is %v", r, list[:i], got)
					}
					tells(t, s, list[:i+1])
				}
				if got := s.Rows(); !same(got, base) || s.Rank() != len(base) {
					t.Fatalf("Rows after %v: %v, rank %d, want %v", list, got, s.Rank(), base)
				}
			}
		}
	})
}

// Each row of the steps has any elements, so many of them say nothing new.
func TestAddOfAnyRows(t *testing.T) {
	dice := rand.New(rand.NewSource(2))
	eachField(t, func(t *testing.T, f *gf.Field) {
		seen := map[bool]int{}
		for range 400 {
			n := dice.Intn(6) + 1
			s := span.New(f, n)
			var list [][]byte
			for range 8 {
				r := some(dice, n)
				before := mat.Rank(nil, list)
				list = append(list, r)
				got := s.Add(r)
				if got != (mat.Rank(nil, list) > before) {
					t.Fatalf("Add of the last one of %v is %v", list, got)
				}
				seen[got]++
				tells(t, s, list)
			}
		}
		if seen[true] < 500 || seen[false] < 500 {
			t.Error("too few rows of one kind:", seen)
		}
	})
}

func TestSecondAddOfARow(t *testing.T) {
	g := gf.New()
	dice := rand.New(rand.NewSource(3))
	eachField(t, func(t *testing.T, f *gf.Field) {
		for _, n := range sizes() {
			r := free(dice, n, nil)
			s := span.New(f, n)
			if !s.Add(r) {
				t.Fatalf("the first Add of %v is false", r)
			}
			for c := range 256 {
				if s.Add(row.Scale(g, byte(c), r)) {
					t.Fatalf("Add of %d times %v is true after %v", c, r, r)
				}
			}
			tells(t, s, [][]byte{r})
		}
	})
}

// Each element other than 0 may be what a row begins with, what stands above a
// beginning, and what is taken away by Rest.
func TestAddOfEachElement(t *testing.T) {
	g := gf.New()
	eachField(t, func(t *testing.T, f *gf.Field) {
		for x := 1; x < 256; x++ {
			b := byte(x)
			quotient, _ := g.Div(200, b)
			s := filled(f, 3, [][]byte{{0, b, 200}})
			if got := s.Rows(); !same(got, [][]byte{{0, 1, quotient}}) {
				t.Errorf("Rows after 0 %d 200: %v", b, got)
			}
			s = filled(f, 3, [][]byte{{1, 5, b}, {0, 0, 1}})
			if got := s.Rows(); !same(got, [][]byte{{1, 5, 0}, {0, 0, 1}}) {
				t.Errorf("Rows after 1 5 %d and 0 0 1: %v", b, got)
			}
			s = filled(f, 2, [][]byte{{1, 3}})
			leaves(t, s, []byte{b, 0}, []byte{0, g.Mul(b, 3)})
		}
	})
}

func TestSpanOfAllRows(t *testing.T) {
	dice := rand.New(rand.NewSource(4))
	eachField(t, func(t *testing.T, f *gf.Field) {
		for n := 1; n <= api.MaxCols; n++ {
			whole, _ := reduced(dice, n, n)
			s := span.New(f, n)
			for i, r := range mixed(dice, n, whole, 0) {
				if !s.Add(r) || s.Rank() != i+1 {
					t.Fatalf("Add of row %d of %d that span all: rank %d", i, n, s.Rank())
				}
			}
			for range 5 {
				r := some(dice, n)
				leaves(t, s, r, make([]byte, n))
				if s.Add(r) || s.Rank() != n {
					t.Fatalf("Add(%v) to all rows: rank %d", r, s.Rank())
				}
			}
			for i, r := range s.Rows() {
				if !bytes.Equal(r, row.Unit(n, i)) {
					t.Fatalf("row %d of all rows of %d: %v", i, n, r)
				}
			}
		}
	})
}

func TestZeroRows(t *testing.T) {
	dice := rand.New(rand.NewSource(5))
	eachField(t, func(t *testing.T, f *gf.Field) {
		for n := range api.MaxCols + 1 {
			base, _ := reduced(dice, dice.Intn(n+1), n)
			for _, list := range [][][]byte{nil, base} {
				s := filled(f, n, list)
				for range 3 {
					if s.Add(make([]byte, n)) {
						t.Fatalf("Add of a zero row of %d is true", n)
					}
				}
				leaves(t, s, make([]byte, n), make([]byte, n))
				tells(t, s, list)
			}
		}
	})
}

func TestRowsOfOtherLengths(t *testing.T) {
	dice := rand.New(rand.NewSource(6))
	eachField(t, func(t *testing.T, f *gf.Field) {
		for _, n := range append(sizes(), 0) {
			base, _ := reduced(dice, n/2, n)
			s := filled(f, n, base)
			for m := range api.MaxCols + 5 {
				if m == n {
					continue
				}
				refuses(t, s, make([]byte, m))
				refuses(t, s, free(dice, m, nil))
				refuses(t, s, make([]byte, m, api.MaxCols+9)) // only the length counts
			}
			refuses(t, s, make([]byte, 1000))
			for _, r := range base {
				refuses(t, s, append(bytes.Clone(r), 0))
				refuses(t, s, append([]byte{0}, r...))
				refuses(t, s, r[:n-1])
				refuses(t, s, r[1:])
			}
			if n > 0 {
				refuses(t, s, nil)
			}
		}
	})
}

// There is one row of 0 bytes. It is the zero row.
func TestRowsWithoutBytes(t *testing.T) {
	eachField(t, func(t *testing.T, f *gf.Field) {
		s := span.New(f, 0)
		for _, r := range [][]byte{nil, {}, make([]byte, 0, 9)} {
			if s.Add(r) {
				t.Error("Add of a row without bytes is true")
			}
			leaves(t, s, r, nil)
			if s.Rank() != 0 || len(s.Rows()) != 0 {
				t.Errorf("rank %d, rows %v", s.Rank(), s.Rows())
			}
		}
		refuses(t, s, []byte{0})
		refuses(t, s, []byte{1})
		if c := s.Clone(); c == nil || c.Add(nil) || !c.Has(nil) || c.Rank() != 0 {
			t.Error("the Clone is another one")
		}
	})
}

// P4.1: the order plays no part

// orders are all orders of a list.
func orders(list [][]byte) [][][]byte {
	if len(list) == 0 {
		return [][][]byte{nil}
	}
	var all [][][]byte
	for i, first := range list {
		for _, o := range orders(slices.Concat(list[:i], list[i+1:])) {
			all = append(all, append([][]byte{first}, o...))
		}
	}
	return all
}

func TestAllOrders(t *testing.T) {
	eachField(t, func(t *testing.T, f *gf.Field) {
		for _, x := range []struct{ list, want [][]byte }{
			{
				[][]byte{{0, 1, 1, 0}, {0, 1, 0, 1}, {0, 0, 1, 1}, {0, 2, 2, 0}, {0, 0, 0, 0}},
				[][]byte{{0, 1, 0, 1}, {0, 0, 1, 1}},
			},
			{
				[][]byte{{1, 2, 3, 4}, {0, 0, 7, 0}, {0, 5, 0, 0}, {9, 9, 9, 9}, {1, 0, 0, 4}},
				[][]byte{{1, 0, 0, 0}, {0, 1, 0, 0}, {0, 0, 1, 0}, {0, 0, 0, 1}},
			},
			{
				[][]byte{{2, 27, 0}, {1, 128, 0}, {3, 155, 0}, {3, 155, 4}},
				[][]byte{{1, 128, 0}, {0, 0, 1}},
			},
		} {
			for _, list := range orders(x.list) {
				s := filled(f, len(list[0]), list)
				if got := s.Rows(); !same(got, x.want) || s.Rank() != len(x.want) {
					t.Fatalf("after %v: rows %v, rank %d, want %v", list, got, s.Rank(), x.want)
				}
			}
		}
	})
}

func TestManyOrders(t *testing.T) {
	dice := rand.New(rand.NewSource(7))
	eachField(t, func(t *testing.T, f *gf.Field) {
		for _, n := range sizes() {
			want, begins := reduced(dice, (n+1)/2, n)
			list := mixed(dice, n, want, 4)
			left := free(dice, n, begins)
			asked := sum(left, inside(dice, n, want))
			for range 12 {
				s := filled(f, n, list)
				if got := s.Rows(); !same(got, want) || s.Rank() != len(want) {
					t.Fatalf("after %v: rows %v, rank %d, want %v", list, got, s.Rank(), want)
				}
				leaves(t, s, asked, left)
				dice.Shuffle(len(list), func(i, j int) { list[i], list[j] = list[j], list[i] })
				list = append(list, list[0]) // and so plays no part how often
			}
		}
	})
}

// P4.1: Has and Rest

func TestRestWrittenOut(t *testing.T) {
	eachField(t, func(t *testing.T, f *gf.Field) {
		s := filled(f, 4, [][]byte{{1, 2, 0, 4}, {0, 0, 1, 7}})
		for _, x := range []struct{ r, want []byte }{
			{[]byte{0, 0, 0, 0}, []byte{0, 0, 0, 0}},
			{[]byte{1, 2, 0, 4}, []byte{0, 0, 0, 0}},
			{[]byte{0, 0, 1, 7}, []byte{0, 0, 0, 0}},
			{[]byte{1, 2, 1, 3}, []byte{0, 0, 0, 0}},
			{[]byte{128, 27, 2, 27 ^ 27 ^ 14 ^ 54}, []byte{0, 0, 0, 0}}, // 128 times 4 is 54
			{[]byte{1, 0, 0, 0}, []byte{0, 2, 0, 4}},
			{[]byte{0, 0, 1, 0}, []byte{0, 0, 0, 7}},
			{[]byte{1, 1, 1, 1}, []byte{0, 3, 0, 2}},
			{[]byte{0, 9, 0, 8}, []byte{0, 9, 0, 8}},
			{[]byte{128, 0, 0, 0}, []byte{0, 27, 0, 54}},
			{[]byte{0, 0, 0, 1}, []byte{0, 0, 0, 1}},
		} {
			leaves(t, s, x.r, x.want)
		}
		for _, r := range [][]byte{nil, {0}, {0, 0, 0}, {0, 0, 0, 0, 0}, {1, 2, 0, 4, 0}} {
			refuses(t, s, r)
		}
	})
}

func TestRestOfRowsInTheSpan(t *testing.T) {
	dice := rand.New(rand.NewSource(8))
	eachField(t, func(t *testing.T, f *gf.Field) {
		for _, n := range sizes() {
			for range 6 {
				base, _ := reduced(dice, dice.Intn(n+1), n)
				list := mixed(dice, n, base, 2)
				s := filled(f, n, list)
				for _, r := range slices.Concat(list, base) {
					leaves(t, s, r, make([]byte, n))
				}
				for range 10 {
					r := inside(dice, n, list)
					leaves(t, s, r, make([]byte, n))
					if s.Add(r) {
						t.Fatalf("Add of %v, which is in the span of %v, is true", r, list)
					}
				}
				tells(t, s, list)
			}
		}
	})
}

// What must be left is known before the row of which it is left, because there
// is exactly one such row.
func TestRestOfRowsThatAreNotInTheSpan(t *testing.T) {
	dice := rand.New(rand.NewSource(9))
	eachField(t, func(t *testing.T, f *gf.Field) {
		for _, n := range sizes() {
			for range 12 {
				base, begins := reduced(dice, dice.Intn(n), n)
				list := mixed(dice, n, base, 2)
				s := filled(f, n, list)
				left := free(dice, n, begins)
				asked := sum(left, inside(dice, n, list))
				leaves(t, s, asked, left)
				leaves(t, s, left, left)
				tells(t, s, list)
				if !s.Add(asked) || s.Add(left) {
					t.Fatalf("Add of %v, then of %v, after %v", asked, left, list)
				}
				leaves(t, s, asked, make([]byte, n))
			}
		}
	})
}

// What the chapter says of the rest of any row.
func TestRestOfAnyRow(t *testing.T) {
	dice := rand.New(rand.NewSource(10))
	eachField(t, func(t *testing.T, f *gf.Field) {
		seen := map[bool]int{}
		for range 600 {
			n := dice.Intn(7) + 1
			var list [][]byte
			for range dice.Intn(n + 2) {
				list = append(list, some(dice, n))
			}
			s, r := filled(f, n, list), some(dice, n)
			got, ok := s.Rest(r)
			if !ok || len(got) != n {
				t.Fatalf("Rest(%v) = %v, %v", r, got, ok)
			}
			for _, b := range mat.Reduce(nil, list) {
				if got[row.Lead(b)] != 0 {
					t.Fatalf("Rest(%v) = %v after %v", r, got, list)
				}
			}
			rank := mat.Rank(nil, list)
			if mat.Rank(nil, append(copied(list), sum(r, got))) != rank {
				t.Fatalf("Rest(%v) = %v after %v: what was added is not in the span", r, got, list)
			}
			has := mat.Rank(nil, append(copied(list), r)) == rank
			if s.Has(r) != has {
				t.Fatalf("Has(%v) = %v after %v", r, !has, list)
			}
			seen[has]++
		}
		if seen[true] < 50 || seen[false] < 50 {
			t.Error("too few rows of one kind:", seen)
		}
	})
}

// P4.1: Clone

func TestCloneTellsTheSame(t *testing.T) {
	dice := rand.New(rand.NewSource(11))
	eachField(t, func(t *testing.T, f *gf.Field) {
		for _, n := range append(sizes(), 0) {
			for _, rank := range []int{0, n / 2, n} {
				base, _ := reduced(dice, rank, n)
				list := mixed(dice, n, base, 2)
				s := filled(f, n, list)
				for _, c := range []*span.Span{s.Clone(), s.Clone().Clone()} {
					if c == nil || c == s {
						t.Fatal("the Clone is nil or the Span itself")
					}
					tells(t, c, list)
					r := some(dice, n)
					left, _ := s.Rest(r)
					leaves(t, c, r, left)
					refuses(t, c, make([]byte, n+1))
				}
			}
		}
	})
}

// Both get rows by turns, such that rows which they have in common change.
func TestCloneGoesItsOwnWay(t *testing.T) {
	dice := rand.New(rand.NewSource(12))
	eachField(t, func(t *testing.T, f *gf.Field) {
		for _, n := range sizes() {
			base, _ := reduced(dice, n/2, n)
			s := filled(f, n, base)
			c := s.Clone()
			ofS, ofC := copied(base), copied(base)
			for range min(n, 12) + 2 {
				r, q := some(dice, n), some(dice, n)
				before, left := s.Has(q), mat.Rank(nil, ofC)
				ofC = append(ofC, q)
				if c.Add(q) != (mat.Rank(nil, ofC) > left) || s.Has(q) != before {
					t.Fatalf("Add of %v to the Clone is seen in the Span", q)
				}
				tells(t, s, ofS)
				tells(t, c, ofC)
				left = mat.Rank(nil, ofS)
				ofS = append(ofS, r)
				if s.Add(r) != (mat.Rank(nil, ofS) > left) {
					t.Fatalf("Add of %v to the Span after one to the Clone", r)
				}
				tells(t, s, ofS)
				tells(t, c, ofC)
			}
		}
	})
}

func TestCloneWrittenOut(t *testing.T) {
	eachField(t, func(t *testing.T, f *gf.Field) {
		s := filled(f, 2, [][]byte{{1, 7}})
		c := s.Clone()
		if !c.Add([]byte{0, 1}) || !same(c.Rows(), [][]byte{{1, 0}, {0, 1}}) {
			t.Error("the Clone:", c.Rows())
		}
		if s.Has([]byte{0, 1}) || !same(s.Rows(), [][]byte{{1, 7}}) {
			t.Error("the Span after Add to its Clone:", s.Rows())
		}
		d := s.Clone()
		if !s.Add([]byte{5, 0}) || s.Rank() != 2 || d.Rank() != 1 || !same(d.Rows(), [][]byte{{1, 7}}) {
			t.Error("the Clone after Add to its Span:", d.Rows())
		}
	})
}

// R3: arguments

// lent are rows in the midst of a longer one, so that a write beside them, into
// their spare capacity too, is found.
type lent struct{ whole, before []byte }

func lend(a []byte) (lent, []byte) {
	whole := bytes.Repeat([]byte{0xa5}, len(a)+40)
	copy(whole[20:], a)
	return lent{whole, bytes.Clone(whole)}, whole[20 : 20+len(a)]
}

func (l lent) changed() bool { return !bytes.Equal(l.whole, l.before) }

// overwrite changes every element of a, and what it could be lengthened by.
func overwrite(a []byte) {
	a = a[:cap(a)]
	for i := range a {
		a[i] ^= 0x5a
	}
}

// rowsForR3 are lists of rows, of which some are such that a short way that
// keeps an argument, or hands out a row that is kept, would be at hand: what is
// reduced already, what is all 0, what begins with a 1, what is there already.
func rowsForR3() [][][]byte {
	dice := rand.New(rand.NewSource(13))
	ones := []byte{1, 1, 1}
	lists := [][][]byte{
		{{1}}, {{2}}, {{0}}, {{0}, {1}}, {nil}, {{}, nil},
		{{1, 0}, {0, 1}}, {{0, 1}, {1, 0}}, {{1, 7}, {0, 1}}, {{1, 7}, {1, 7}}, {{0, 0}, {1, 7}, {0, 0}},
		{ones, ones, ones}, {{1, 2, 3}, {0, 0, 0}, {0, 0, 1}, {0, 1, 0}}, {{2, 3, 4}, {4, 3, 2}, {1, 1, 1}, {9, 9, 9}},
	}
	for _, n := range sizes() {
		base, _ := reduced(dice, (n+1)/2, n)
		lists = append(lists, base, mixed(dice, n, base, 3))
	}
	return lists
}

func TestNoArgumentIsChanged(t *testing.T) {
	f := gf.New()
	before := *f
	for _, list := range rowsForR3() {
		for _, g := range []*gf.Field{f, nil} {
			s := span.New(g, len(list[0]))
			for _, r := range slices.Concat(list, [][]byte{nil, {1, 2, 3, 4}, make([]byte, api.MaxCols+1)}) {
				l, r := lend(r)
				s.Rest(r)
				s.Has(r)
				s.Add(r)
				s.Rest(r)
				s.Has(r)
				s.Add(r)
				s.Clone().Add(r)
				if l.changed() {
					t.Fatalf("a row of %v is changed", list)
				}
			}
		}
	}
	if *f != before {
		t.Error("the Field has changed")
	}
}

// Rows are written into as soon as they were handed in. A Span that had kept one
// would tell something else then.
func TestNoRowIsKept(t *testing.T) {
	eachField(t, func(t *testing.T, f *gf.Field) {
		for _, list := range rowsForR3() {
			s := span.New(f, len(list[0]))
			asked := bytes.Repeat([]byte{3}, len(list[0]))
			for i := range list {
				_, r := lend(list[i])
				before := s.Rows()
				s.Has(r)
				s.Rest(r)
				overwrite(r)
				if got := s.Rows(); !same(got, before) {
					t.Fatalf("writing into a row that was asked for changes %v to %v", before, got)
				}
				overwrite(r)
				s.Add(r)
				rows, has := s.Rows(), s.Has(asked)
				rest, _ := s.Rest(asked)
				c := s.Clone()
				overwrite(r)
				for _, now := range []*span.Span{s, c} {
					tells(t, now, list[:i+1])
					left, _ := now.Rest(asked)
					if !same(now.Rows(), rows) || now.Has(asked) != has || !bytes.Equal(left, rest) {
						t.Fatalf("writing into row %d of %v after Add changes what is told", i, list)
					}
				}
			}
		}
	})
}

// Neither is it kept when one piece of memory is used for row after row.
func TestAddOfOnePieceOfMemory(t *testing.T) {
	eachField(t, func(t *testing.T, f *gf.Field) {
		for _, list := range rowsForR3() {
			s := span.New(f, len(list[0]))
			r := make([]byte, len(list[0]))
			for i := range list {
				copy(r, list[i])
				s.Add(r)
				tells(t, s, list[:i+1])
			}
		}
	})
}

// withLostField is a Span whose Field nobody else has, and what tells whether
// the Field is still kept. A function of its own, so that f is gone afterwards.
func withLostField() (*span.Span, weak.Pointer[gf.Field]) {
	f := gf.New()
	s := span.New(f, 3)
	s.Add([]byte{1, 2, 3})
	return s, weak.Make(f)
}

func TestNoFieldIsKept(t *testing.T) {
	s, f := withLostField()
	runtime.GC()
	if f.Value() != nil {
		t.Error("the Span keeps its Field")
	}
	tells(t, s, [][]byte{{1, 2, 3}})
	runtime.KeepAlive(s)
}

func TestWritingIntoTheFieldChangesNothing(t *testing.T) {
	f := gf.New()
	s := filled(f, 3, [][]byte{{2, 3, 4}})
	*f = gf.Field{}
	if !s.Add([]byte{7, 0, 9}) {
		t.Error("Add is false")
	}
	tells(t, s, [][]byte{{2, 3, 4}, {7, 0, 9}})
}

// R3: results

func TestRestIsNewMemory(t *testing.T) {
	eachField(t, func(t *testing.T, f *gf.Field) {
		for _, list := range rowsForR3() {
			n := len(list[0])
			for _, used := range []int{0, 1, len(list) / 2, len(list)} {
				s := filled(f, n, list[:used])
				for _, x := range slices.Concat(list, [][]byte{make([]byte, n), bytes.Repeat([]byte{1}, n)}) {
					l, r := lend(x)
					first, _ := s.Rest(r)
					second, _ := s.Rest(r)
					want := bytes.Clone(second)
					overwrite(first)
					if l.changed() {
						t.Fatalf("writing into Rest(%v) changes its argument, after %v", x, list[:used])
					}
					if !bytes.Equal(second, want) {
						t.Fatalf("writing into Rest(%v) changes another result, after %v", x, list[:used])
					}
					tells(t, s, list[:used])
					leaves(t, s, r, want)
					overwrite(r)
					if !bytes.Equal(second, want) {
						t.Fatalf("writing into the argument of Rest changes its result, after %v", list[:used])
					}
				}
			}
		}
	})
}

// A rest is added, and written into afterwards.
func TestRestThatIsAdded(t *testing.T) {
	dice := rand.New(rand.NewSource(14))
	eachField(t, func(t *testing.T, f *gf.Field) {
		for _, list := range rowsForR3() {
			n := len(list[0])
			s := filled(f, n, list[1:])
			r := some(dice, n)
			rest, _ := s.Rest(r)
			s.Add(rest)
			overwrite(rest)
			tells(t, s, append(copied(list[1:]), r))
		}
	})
}

// spoil changes every row of a list, and the list, with what they could be
// lengthened by.
func spoil(list [][]byte) {
	for i, r := range list {
		overwrite(r)
		list[i] = []byte{77}
	}
	list = list[:cap(list)]
	for i := range list {
		list[i] = []byte{77}
	}
}

func TestRowsAreNewMemory(t *testing.T) {
	eachField(t, func(t *testing.T, f *gf.Field) {
		for _, list := range rowsForR3() {
			own := copied(list)
			s := filled(f, len(list[0]), list)
			c := s.Clone()
			want := mat.Reduce(nil, own)
			first, second, third := s.Rows(), s.Rows(), c.Rows()
			spoil(first)
			if !same(list, own) {
				t.Fatalf("writing into Rows changes the rows that were added: %v, now %v", own, list)
			}
			if !same(second, want) || !same(third, want) {
				t.Fatalf("writing into Rows changes another result, after %v", list)
			}
			tells(t, s, list)
			tells(t, c, list)
			spoil(second)
			spoil(third)
			for _, r := range own {
				leaves(t, s, r, make([]byte, len(r)))
				leaves(t, c, r, make([]byte, len(r)))
				if s.Add(r) || c.Add(r) {
					t.Fatalf("Add of a row that is there is true, after %v", list)
				}
			}
			tells(t, s, list)
			tells(t, c, list)
		}
	})
}

func TestRowsOfOneListShareNothing(t *testing.T) {
	eachField(t, func(t *testing.T, f *gf.Field) {
		for _, list := range rowsForR3() {
			got := filled(f, len(list[0]), list).Rows()
			want := copied(got)
			for i, r := range got {
				if !bytes.Equal(r, want[i]) {
					t.Fatalf("writing into a row of Rows changes row %d, after %v", i, list)
				}
				overwrite(r)
			}
		}
	})
}

// What was told stays as it is when rows are added.
func TestAddChangesNoResult(t *testing.T) {
	dice := rand.New(rand.NewSource(15))
	eachField(t, func(t *testing.T, f *gf.Field) {
		for _, n := range sizes() {
			s := span.New(f, n)
			var results, wants [][]byte
			keep := func(list ...[]byte) {
				results, wants = append(results, list...), append(wants, copied(list)...)
			}
			for range n {
				rest, _ := s.Rest(some(dice, n))
				keep(rest)
				keep(s.Rows()...)
				s.Add(some(dice, n))
			}
			if !same(results, wants) {
				t.Fatalf("Add changes what was told of rows of %d before", n)
			}
		}
	})
}

// R5: what is told depends on what was added, not on what was asked before.
func TestAskingChangesNothing(t *testing.T) {
	dice := rand.New(rand.NewSource(16))
	for _, n := range sizes() {
		asked, quiet := span.New(nil, n), span.New(nil, n)
		for range n + 3 {
			for range 3 {
				q := some(dice, n)
				asked.Has(q)
				asked.Rest(q)
				asked.Rank()
				asked.Rows()
				asked.Clone().Add(q)
			}
			r := some(dice, n)
			if asked.Add(r) != quiet.Add(r) || !same(asked.Rows(), quiet.Rows()) || asked.Rank() != quiet.Rank() {
				t.Fatalf("a Span that was asked tells %v, another one %v", asked.Rows(), quiet.Rows())
			}
		}
	}
}

// R1: a Field and a Span that New did not make.

func TestFieldThatNewDidNotMake(t *testing.T) {
	list := [][]byte{{2, 3, 4}, {7, 0, 9}, {5, 3, 13}}
	tells(t, filled(new(gf.Field), 3, list), list)
}

func TestSpanThatNewDidNotMake(t *testing.T) {
	s := new(span.Span)
	if s.Add(nil) || s.Rank() != 0 || len(s.Rows()) != 0 || s.Clone() == nil {
		t.Error("it is not one of rows of 0 bytes")
	}
	leaves(t, s, nil, nil)
	refuses(t, s, []byte{1})
}

// R5: Spans that were made with one Field may be used by several at once, and so
// may one Span that is only asked.
func TestManyAtOnce(t *testing.T) {
	f := gf.New()
	dice := rand.New(rand.NewSource(17))
	want, begins := reduced(dice, 9, 16)
	list := mixed(dice, 16, want, 3)
	left := free(dice, 16, begins)
	one := filled(f, 16, list)
	var wait sync.WaitGroup
	for range 4 {
		wait.Go(func() {
			for range 20 {
				for _, s := range []*span.Span{one, one.Clone(), filled(f, 16, list)} {
					got, ok := s.Rest(left)
					if !ok || !bytes.Equal(got, left) || s.Has(left) || s.Rank() != 9 || !same(s.Rows(), want) {
						t.Error("another answer to the same question")
					}
				}
			}
		})
	}
	wait.Wait()
}

func Example() {
	s := span.New(gf.New(), 3)
	fmt.Println(s.Add([]byte{1, 1, 0}), s.Add([]byte{0, 2, 27}), s.Add([]byte{1, 1, 0}))
	fmt.Println(s.Rank(), s.Rows())
	fmt.Println(s.Has([]byte{1, 0, 128}), s.Has([]byte{1, 0, 0}))
	fmt.Println(s.Rest([]byte{1, 0, 0}))
	// Output:
	// true true false
	// 2 [[1 0 128] [0 1 128]]
	// true false
	// [0 0 128] true
}
