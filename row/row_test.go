package row_test

import (
	"bytes"
	"fmt"
	"math"
	"sync"
	"testing"

	"wellspring/api"
	"wellspring/gf"
	"wellspring/row"
)

// eachField runs a test with a Field that New made and with a nil one, which
// must answer alike.
func eachField(t *testing.T, test func(t *testing.T, f *gf.Field)) {
	t.Run("new", func(t *testing.T) { test(t, gf.New()) })
	t.Run("nil", func(t *testing.T) { test(t, nil) })
}

// lengths are those of which rows are tried.
func lengths() []int {
	return []int{0, 1, 2, 3, 7, 8, 24, 63, 64, 65, 255, 256, 1000}
}

// some makes a row of n elements, another one for each seed. Of 512 elements
// that follow one another each is found twice, 0 too.
func some(n, seed int) []byte {
	a := make([]byte, n)
	for i := range a {
		a[i] = byte((i+seed)*(i+seed+1)/2 + seed)
	}
	return a
}

// rowsOfAllProducts are two rows in which every pair of elements meets.
func rowsOfAllProducts() (a, b []byte) {
	for i := range 256 * 256 {
		a, b = append(a, byte(i)), append(b, byte(i>>8))
	}
	return a, b
}

// unlike are pairs of rows whose lengths differ, by little and by much, with
// the longer one on either side.
func unlike() [][2][]byte {
	var pairs [][2][]byte
	for _, n := range lengths() {
		for _, m := range lengths() {
			if n != m {
				pairs = append(pairs, [2][]byte{some(n, 1), some(m, 2)})
			}
		}
	}
	zeros := make([]byte, 9)
	return append(pairs,
		[2][]byte{nil, {0}}, [2][]byte{{0}, nil}, [2][]byte{{}, {1}}, [2][]byte{{1}, {}},
		[2][]byte{zeros, zeros[:8]}, [2][]byte{zeros[:8], zeros}, [2][]byte{zeros[:7], zeros[1:]})
}

// P2.1: Sum

func TestSum(t *testing.T) {
	for _, n := range lengths() {
		a, b := some(n, 3), some(n, 11)
		got, ok := row.Sum(a, b)
		if !ok || len(got) != n {
			t.Fatalf("Sum of rows of %d: %v, %v", n, got, ok)
		}
		for i := range got {
			if got[i] != a[i]^b[i] {
				t.Fatalf("Sum: element %d of %d is %d, want %d + %d", i, n, got[i], a[i], b[i])
			}
		}
	}
}

func TestSumOfAllPairs(t *testing.T) {
	a, b := rowsOfAllProducts()
	got, ok := row.Sum(a, b)
	if !ok || len(got) != len(a) {
		t.Fatal(len(got), ok)
	}
	for i := range got {
		if got[i] != a[i]^b[i] {
			t.Fatalf("%d + %d = %d", a[i], b[i], got[i])
		}
	}
}

func TestSumWrittenOut(t *testing.T) {
	for _, x := range []struct{ a, b, want []byte }{
		{[]byte{1}, []byte{1}, []byte{0}},
		{[]byte{0}, []byte{0}, []byte{0}},
		{[]byte{255, 1, 0}, []byte{1, 2, 0}, []byte{254, 3, 0}},
		{nil, nil, nil}, {[]byte{}, []byte{}, nil}, {nil, []byte{}, nil}, {[]byte{}, nil, nil},
	} {
		if got, ok := row.Sum(x.a, x.b); !ok || !bytes.Equal(got, x.want) {
			t.Errorf("Sum(%v, %v) = %v, %v, want %v, true", x.a, x.b, got, ok, x.want)
		}
	}
}

func TestSumOfUnlikeLengths(t *testing.T) {
	for _, x := range unlike() {
		if got, ok := row.Sum(x[0], x[1]); len(got) != 0 || ok {
			t.Errorf("Sum of rows of %d and %d: %v, %v, want none, false", len(x[0]), len(x[1]), got, ok)
		}
	}
}

func TestSumOfARowAndItself(t *testing.T) {
	a := some(300, 5)
	if got, ok := row.Sum(a, a); !ok || !bytes.Equal(got, make([]byte, 300)) {
		t.Error(got, ok)
	}
}

// P2.1: Scale

func TestScale(t *testing.T) {
	g := gf.New()
	eachField(t, func(t *testing.T, f *gf.Field) {
		all := some(512, 0)
		for c := range 256 {
			got := row.Scale(f, byte(c), all)
			if len(got) != len(all) {
				t.Fatalf("Scale by %d: %d elements of %d", c, len(got), len(all))
			}
			for i := range got {
				if got[i] != g.Mul(byte(c), all[i]) {
					t.Fatalf("Scale by %d: %d becomes %d", c, all[i], got[i])
				}
			}
		}
		for _, n := range lengths() {
			if got := row.Scale(f, 1, some(n, 2)); !bytes.Equal(got, some(n, 2)) {
				t.Errorf("Scale by 1 changes a row of %d: %v", n, got)
			}
		}
	})
}

func TestScaleWrittenOut(t *testing.T) {
	eachField(t, func(t *testing.T, f *gf.Field) {
		for _, x := range []struct {
			c       byte
			a, want []byte
		}{
			{2, []byte{128, 1, 0, 3}, []byte{27, 2, 0, 6}},
			{0, []byte{128, 1, 0, 3}, []byte{0, 0, 0, 0}},
			{0x57, []byte{0x83}, []byte{0xc1}},
			{7, nil, nil}, {7, []byte{}, nil}, {0, nil, nil},
		} {
			if got := row.Scale(f, x.c, x.a); !bytes.Equal(got, x.want) {
				t.Errorf("Scale(%d, %v) = %v, want %v", x.c, x.a, got, x.want)
			}
		}
	})
}

// P2.1: Axpy

func TestAxpy(t *testing.T) {
	g := gf.New()
	eachField(t, func(t *testing.T, f *gf.Field) {
		for c := range 256 {
			for _, n := range lengths() {
				a, b := some(n, 6), some(n, c)
				got, ok := row.Axpy(f, byte(c), a, b)
				if !ok || len(got) != n {
					t.Fatalf("Axpy by %d of rows of %d: %v, %v", c, n, got, ok)
				}
				for i := range got {
					if got[i] != b[i]^g.Mul(byte(c), a[i]) {
						t.Fatalf("Axpy: %d times %d, plus %d: %d", c, a[i], b[i], got[i])
					}
				}
			}
		}
	})
}

// Which of the two rows is multiplied is to be seen here by hand.
func TestAxpyWrittenOut(t *testing.T) {
	eachField(t, func(t *testing.T, f *gf.Field) {
		for _, x := range []struct {
			c          byte
			a, b, want []byte
		}{
			{2, []byte{128, 0, 1}, []byte{0, 128, 1}, []byte{27, 128, 3}},
			{0, []byte{128, 0, 1}, []byte{5, 6, 7}, []byte{5, 6, 7}},
			{1, []byte{1, 2, 3}, []byte{3, 2, 1}, []byte{2, 0, 2}},
			{9, nil, nil, nil}, {9, []byte{}, nil, nil}, {9, nil, []byte{}, nil},
		} {
			if got, ok := row.Axpy(f, x.c, x.a, x.b); !ok || !bytes.Equal(got, x.want) {
				t.Errorf("Axpy(%d, %v, %v) = %v, %v, want %v, true", x.c, x.a, x.b, got, ok, x.want)
			}
		}
	})
}

func TestAxpyOfUnlikeLengths(t *testing.T) {
	eachField(t, func(t *testing.T, f *gf.Field) {
		for _, x := range unlike() {
			for _, c := range []byte{0, 1, 200} {
				if got, ok := row.Axpy(f, c, x[0], x[1]); len(got) != 0 || ok {
					t.Errorf("Axpy by %d of rows of %d and %d: %v, %v, want none, false", c, len(x[0]), len(x[1]), got, ok)
				}
			}
		}
	})
}

func TestAxpyOfARowAndItself(t *testing.T) {
	eachField(t, func(t *testing.T, f *gf.Field) {
		a := some(300, 5)
		if got, ok := row.Axpy(f, 2, a, a); !ok || !bytes.Equal(got, row.Scale(f, 3, a)) {
			t.Error(got, ok)
		}
	})
}

// P2.1: Dot

func TestDot(t *testing.T) {
	g := gf.New()
	eachField(t, func(t *testing.T, f *gf.Field) {
		for _, n := range lengths() {
			for seed := range 50 {
				a, b := some(n, seed), some(n, 2*seed+1)
				want := byte(0)
				for i := range a {
					want ^= g.Mul(a[i], b[i])
				}
				if got, ok := row.Dot(f, a, b); got != want || !ok {
					t.Fatalf("Dot of %v and %v = %d, %v, want %d, true", a, b, got, ok, want)
				}
			}
		}
	})
}

func TestDotOfOneElement(t *testing.T) {
	g := gf.New()
	eachField(t, func(t *testing.T, f *gf.Field) {
		for a := range 256 {
			for b := range 256 {
				want := g.Mul(byte(a), byte(b))
				if got, ok := row.Dot(f, []byte{byte(a)}, []byte{byte(b)}); got != want || !ok {
					t.Fatalf("Dot of %d and %d = %d, %v, want %d, true", a, b, got, ok, want)
				}
			}
		}
	})
}

func TestDotWrittenOut(t *testing.T) {
	eachField(t, func(t *testing.T, f *gf.Field) {
		for _, x := range []struct {
			a, b []byte
			want byte
		}{
			{[]byte{1, 2}, []byte{3, 1}, 1}, // the chapter's example
			{[]byte{2, 2}, []byte{128, 128}, 0},
			{[]byte{2, 0, 1}, []byte{128, 9, 1}, 26},
			{[]byte{0, 0}, []byte{7, 8}, 0},
			{nil, nil, 0}, {[]byte{}, nil, 0}, {nil, []byte{}, 0}, {[]byte{}, []byte{}, 0},
		} {
			if got, ok := row.Dot(f, x.a, x.b); got != x.want || !ok {
				t.Errorf("Dot(%v, %v) = %d, %v, want %d, true", x.a, x.b, got, ok, x.want)
			}
		}
	})
}

func TestDotOfUnlikeLengths(t *testing.T) {
	eachField(t, func(t *testing.T, f *gf.Field) {
		for _, x := range unlike() {
			if got, ok := row.Dot(f, x[0], x[1]); got != 0 || ok {
				t.Errorf("Dot of rows of %d and %d: %d, %v, want 0, false", len(x[0]), len(x[1]), got, ok)
			}
		}
	})
}

// P2.1: Lead

func TestLead(t *testing.T) {
	for _, n := range lengths() {
		for at := range n {
			a := make([]byte, n)
			for i := at; i < n; i++ {
				a[i] = byte(i%255 + 1) // what follows the first one does not count
			}
			if got := row.Lead(a); got != at {
				t.Fatalf("Lead(%v) = %d, want %d", a, got, at)
			}
		}
	}
}

func TestLeadOfEachElement(t *testing.T) {
	for x := range 256 {
		want := 1
		if x == 0 {
			want = -1
		}
		if got := row.Lead([]byte{0, byte(x), 0}); got != want {
			t.Errorf("Lead(0, %d, 0) = %d, want %d", x, got, want)
		}
	}
}

func TestLeadOfARowWithout(t *testing.T) {
	spare := []byte{0, 0, 0, 1, 1}
	for _, a := range [][]byte{nil, {}, {0}, {0, 0}, make([]byte, 64), make([]byte, 1000), spare[:3], spare[:0]} {
		if got := row.Lead(a); got != -1 {
			t.Errorf("Lead(%v) = %d, want -1", a, got)
		}
	}
}

// P2.1: Unit

func TestUnit(t *testing.T) {
	for n := 1; n <= api.MaxCols; n++ {
		for at := range n {
			want := make([]byte, n)
			want[at] = 1
			if got := row.Unit(n, at); !bytes.Equal(got, want) {
				t.Fatalf("Unit(%d, %d) = %v", n, at, got)
			}
		}
	}
}

func TestUnitWrittenOut(t *testing.T) {
	for _, x := range []struct {
		n, at int
		want  []byte
	}{
		{1, 0, []byte{1}}, {2, 0, []byte{1, 0}}, {2, 1, []byte{0, 1}}, {5, 3, []byte{0, 0, 0, 1, 0}},
	} {
		if got := row.Unit(x.n, x.at); !bytes.Equal(got, x.want) {
			t.Errorf("Unit(%d, %d) = %v, want %v", x.n, x.at, got, x.want)
		}
	}
	if got := row.Unit(api.MaxCols, api.MaxCols-1); len(got) != api.MaxCols || got[api.MaxCols-1] != 1 {
		t.Error(got)
	}
}

func TestUnitThatThereIsNot(t *testing.T) {
	for n := -3; n <= api.MaxCols+3; n++ {
		inside := n >= 1 && n <= api.MaxCols
		for at := -3; at <= api.MaxCols+5; at++ {
			if got := row.Unit(n, at); len(got) != 0 && !(inside && at >= 0 && at < n) {
				t.Errorf("Unit(%d, %d) = %v, want none", n, at, got)
			}
		}
	}
	far := []int{math.MinInt, math.MinInt32, -1 << 16, -1, 0, 1, 64, 65, 1 << 16, 1 << 30, math.MaxInt32, math.MaxInt}
	for _, n := range far {
		for _, at := range far {
			if got := row.Unit(n, at); len(got) != 0 && (n != 1 && n != 64 || at < 0 || at >= n) {
				t.Errorf("Unit(%d, %d) has %d elements, want none", n, at, len(got))
			}
		}
	}
}

// R3

// made is a call whose answer is a new row, of rows a and b with n elements.
type made struct {
	name string
	call func(f *gf.Field, a, b []byte) []byte
}

// answers are the calls that return a row, with scalars for which a short way
// that hands out an argument itself would be at hand.
func answers() []made {
	list := []made{
		{"Sum", func(_ *gf.Field, a, b []byte) []byte { c, _ := row.Sum(a, b); return c }},
		{"Unit of the first", func(_ *gf.Field, a, _ []byte) []byte { return row.Unit(len(a), 0) }},
		{"Unit of the last", func(_ *gf.Field, a, _ []byte) []byte { return row.Unit(len(a), len(a)-1) }},
	}
	for _, c := range []byte{0, 1, 2, 255} {
		list = append(list,
			made{fmt.Sprint("Scale by ", c), func(f *gf.Field, a, _ []byte) []byte { return row.Scale(f, c, a) }},
			made{fmt.Sprint("Axpy by ", c), func(f *gf.Field, a, b []byte) []byte { d, _ := row.Axpy(f, c, a, b); return d }})
	}
	return list
}

// lent are rows in the midst of a longer one, so that a write beside them, into
// their spare capacity too, is found.
type lent struct{ whole, before []byte }

func lend(a []byte) (lent, []byte) {
	whole := bytes.Repeat([]byte{0xa5}, len(a)+40)
	copy(whole[20:], a)
	return lent{whole, bytes.Clone(whole)}, whole[20 : 20+len(a)]
}

func (l lent) changed() bool { return !bytes.Equal(l.whole, l.before) }

// pairsForR3 are rows of which some are all 0, because adding these would be
// another short way to hand out an argument.
func pairsForR3() [][2][]byte {
	zeros, ones := make([]byte, 24), bytes.Repeat([]byte{1}, 24)
	return [][2][]byte{
		{some(1, 1), some(1, 2)}, {some(24, 1), some(24, 2)}, {some(64, 3), some(64, 4)},
		{zeros, some(24, 5)}, {some(24, 6), zeros}, {zeros, zeros}, {ones, ones}, {nil, nil},
	}
}

func TestNoArgumentIsChanged(t *testing.T) {
	f := gf.New()
	before := *f
	pairs := append(pairsForR3(), unlike()...)
	for _, x := range pairs {
		la, a := lend(x[0])
		lb, b := lend(x[1])
		for _, m := range answers() {
			m.call(f, a, b)
			m.call(nil, a, b)
			if la.changed() || lb.changed() {
				t.Fatalf("%s changes an argument, of %d and %d elements", m.name, len(a), len(b))
			}
		}
		row.Dot(f, a, b)
		row.Lead(a)
		if la.changed() || lb.changed() {
			t.Fatal("Dot or Lead changes an argument")
		}
	}
	if *f != before {
		t.Error("the Field has changed")
	}
}

func TestResultsAreNewMemory(t *testing.T) {
	eachField(t, func(t *testing.T, f *gf.Field) {
		for _, x := range pairsForR3() {
			for _, m := range answers() {
				la, a := lend(x[0])
				lb, b := lend(x[1])
				first, second := m.call(f, a, b), m.call(f, a, b)
				want := bytes.Clone(second)
				overwrite(first)
				if la.changed() || lb.changed() {
					t.Fatalf("%s: writing into the result changes an argument", m.name)
				}
				if !bytes.Equal(second, want) {
					t.Fatalf("%s: writing into a result changes another one", m.name)
				}
				overwrite(a)
				overwrite(b)
				if !bytes.Equal(second, want) {
					t.Fatalf("%s: writing into an argument changes a result", m.name)
				}
				_, a = lend(x[0])
				_, b = lend(x[1])
				if again := m.call(f, a, b); !bytes.Equal(again, want) {
					t.Fatalf("%s: writing into a result changes a later one", m.name)
				}
			}
		}
	})
}

// overwrite changes every element of a, and what it could be lengthened by.
func overwrite(a []byte) {
	a = a[:cap(a)]
	for i := range a {
		a[i] ^= 0x5a
	}
}

// The results of different calls share nothing either, whatever arguments the
// calls have in common.
func TestResultsOfDifferentCallsShareNothing(t *testing.T) {
	f := gf.New()
	for _, x := range pairsForR3() {
		var results, before [][]byte
		for _, m := range answers() {
			r := m.call(f, x[0], x[1])
			results, before = append(results, r), append(before, bytes.Clone(r))
		}
		for i, r := range results {
			if !bytes.Equal(r, before[i]) {
				t.Fatalf("writing into another result changes that of %s", answers()[i].name)
			}
			overwrite(r)
		}
	}
}

// R5: one Field and the same rows may be used by several at once.
func TestManyAtOnce(t *testing.T) {
	f := gf.New()
	a, b := some(500, 1), some(500, 2)
	want, _ := row.Axpy(f, 77, a, b)
	dot, _ := row.Dot(f, a, b)
	var wait sync.WaitGroup
	for range 4 {
		wait.Go(func() {
			for range 50 {
				got, ok := row.Axpy(f, 77, a, b)
				d, fits := row.Dot(f, a, b)
				if !ok || !fits || d != dot || !bytes.Equal(got, want) {
					t.Error("another answer to the same question")
				}
			}
		})
	}
	wait.Wait()
}

func Example() {
	f := gf.New()
	dot, _ := row.Dot(f, []byte{1, 2}, []byte{3, 1})
	sum, ok := row.Axpy(f, 2, []byte{128, 0}, []byte{0, 7})
	fmt.Println(dot, sum, ok, row.Lead(row.Unit(4, 3)))
	// Output: 1 [27 7] true 3
}
