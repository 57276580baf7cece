package mat_test

import (
	"bytes"
	"fmt"
	"math/rand"
	"slices"
	"sync"
	"testing"
	"unsafe"

	"wellspring/api"
	"wellspring/gf"
	"wellspring/mat"
	"wellspring/row"
)

// eachField runs a test with a Field that New made and with a nil one, which
// must answer alike.
func eachField(t *testing.T, test func(t *testing.T, f *gf.Field)) {
	t.Run("new", func(t *testing.T) { test(t, gf.New()) })
	t.Run("nil", func(t *testing.T) { test(t, nil) })
}

// same tells whether two lists have equal rows in the same order.
func same(a, b [][]byte) bool { return slices.EqualFunc(a, b, bytes.Equal) }

// copied is a with rows of its own.
func copied(a [][]byte) [][]byte {
	c := make([][]byte, len(a))
	for i, r := range a {
		c[i] = bytes.Clone(r)
	}
	return c
}

// blank is rows of zeros.
func blank(rows, cols int) [][]byte {
	a := make([][]byte, rows)
	for i := range a {
		a[i] = make([]byte, cols)
	}
	return a
}

// some is a matrix of any elements, 0 every other time.
func some(dice *rand.Rand, rows, cols int) [][]byte {
	a := blank(rows, cols)
	for _, r := range a {
		for j := range r {
			r[j] = byte(dice.Intn(256) * dice.Intn(2))
		}
	}
	return a
}

// padded is a list of rows of cols elements with more zero rows at its end.
func padded(a [][]byte, more, cols int) [][]byte {
	return slices.Concat(a, blank(more, cols))
}

// identity has n rows and columns.
func identity(n int) [][]byte {
	a := blank(n, n)
	for i := range a {
		a[i][i] = 1
	}
	return a
}

// reduced is a matrix in reduced row echelon form, without zero rows.
func reduced(dice *rand.Rand, rank, cols int) [][]byte {
	begins := dice.Perm(cols)[:rank]
	slices.Sort(begins)
	a := some(dice, rank, cols)
	for i, r := range a {
		clear(r[:begins[i]])
		for j, b := range begins {
			r[b] = 0
			if i == j {
				r[b] = 1
			}
		}
	}
	return a
}

// mixed is the lists after many of the steps that leave the space of the rows as
// it is, the same steps for all of them.
func mixed(dice *rand.Rand, lists ...[][]byte) [][][]byte {
	g := gf.New()
	var out [][][]byte
	for _, a := range lists {
		out = append(out, copied(a))
	}
	n := len(out[0])
	for range 6 * n {
		to, from := dice.Intn(n), dice.Intn(n)
		c := byte(dice.Intn(255) + 1)
		for _, a := range out {
			for k := range a[to] {
				if to == from {
					a[to][k] = g.Mul(c, a[to][k])
				} else {
					a[to][k] ^= g.Mul(c, a[from][k])
				}
			}
		}
		i, j := dice.Intn(n), dice.Intn(n)
		for _, a := range out {
			a[i], a[j] = a[j], a[i]
		}
	}
	return out
}

// product is the product of a and x, element by element.
func product(a, x [][]byte) [][]byte {
	g := gf.New()
	var out [][]byte
	for _, r := range a {
		var sum []byte
		if len(x) > 0 {
			sum = make([]byte, len(x[0]))
		}
		for k := range sum {
			for j := range x {
				sum[k] ^= g.Mul(r[j], x[j][k])
			}
		}
		out = append(out, sum)
	}
	return out
}

// unlike are lists of rows that are no matrix, because of the lengths, or
// because of the number of columns.
func unlike() [][][]byte {
	zeros := make([]byte, api.MaxCols+9)
	list := [][][]byte{
		{{1}, {}}, {{}, {1}}, {{1}, nil}, {nil, {1}}, {{0}, {0, 0}}, {{0, 0}, {0}},
		{{1, 2}, {3, 4}, {5}}, {{1, 2}, {3, 4}, {5, 6, 7}}, {{1, 2}, {3}, {4, 5}}, {{1}, {2, 3}, {4, 5}},
		{zeros[:api.MaxCols], zeros[:api.MaxCols-1]}, {zeros[:api.MaxCols-1], zeros[:api.MaxCols]},
		{zeros[:api.MaxCols], zeros[:api.MaxCols+1]}, {zeros[:api.MaxCols+1], zeros[:api.MaxCols]},
		{zeros[:api.MaxCols+1]}, {zeros}, {make([]byte, 1000)},
		blank(2, api.MaxCols+1), blank(api.MaxCols+1, api.MaxCols+1), identity(api.MaxCols + 1),
	}
	long := blank(100, 5)
	long[99] = long[99][:4]
	return append(list, long)
}

// P3.1: May

func TestMay(t *testing.T) {
	for _, a := range [][][]byte{
		nil, {}, {{}}, {nil}, {{}, {}}, {nil, {}}, {{}, nil}, blank(1000, 0),
		{{0}}, {{1}, {1}}, {{1, 2, 3}}, {{1, 2}, {3, 4}, {5, 6}},
		{make([]byte, api.MaxCols)}, blank(2, api.MaxCols), blank(1000, api.MaxCols), identity(api.MaxCols),
	} {
		if !mat.May(a) {
			t.Errorf("May is false for %d rows: %v", len(a), a)
		}
	}
}

func TestMayOfEachNumberOfColumns(t *testing.T) {
	for n := range api.MaxCols + 20 {
		for rows := 1; rows < 4; rows++ {
			if got := mat.May(blank(rows, n)); got != (n <= api.MaxCols) {
				t.Errorf("May of %d rows of %d: %v", rows, n, got)
			}
		}
	}
}

func TestMayNot(t *testing.T) {
	for _, a := range unlike() {
		if mat.May(a) {
			t.Errorf("May is true for %d rows: %v", len(a), a)
		}
	}
}

// Only the length of a row counts, not what it could be lengthened to.
func TestMayOfRowsWithSpareCapacity(t *testing.T) {
	whole := make([]byte, 200)
	if !mat.May([][]byte{whole[:64], whole[:64:64], whole[100:164]}) {
		t.Error("rows of 64 in a longer one are a matrix")
	}
	if mat.May([][]byte{whole[:3], whole[:4]}) {
		t.Error("rows of 3 and 4 are no matrix")
	}
}

// P3.1: Reduce and Rank

func TestReduceWrittenOut(t *testing.T) {
	eachField(t, func(t *testing.T, f *gf.Field) {
		for _, x := range []struct{ a, want [][]byte }{
			{[][]byte{{1, 1}, {1, 1}}, [][]byte{{1, 1}}}, // the chapter's example
			{[][]byte{{0, 7}}, [][]byte{{0, 1}}},
			{[][]byte{{0, 7}, {9, 0}}, [][]byte{{1, 0}, {0, 1}}},
			{[][]byte{{2, 27}}, [][]byte{{1, 128}}}, // 2 times 128 is 27
			{[][]byte{{128, 27, 0}}, [][]byte{{1, 2, 0}}},
			{[][]byte{{1, 7, 5}, {0, 0, 1}}, [][]byte{{1, 7, 0}, {0, 0, 1}}},
			{[][]byte{{0, 0, 1}, {1, 7, 5}}, [][]byte{{1, 7, 0}, {0, 0, 1}}},
			{[][]byte{{1, 2}, {1, 3}, {1, 4}}, [][]byte{{1, 0}, {0, 1}}},
			{[][]byte{{1, 2, 3}, {2, 4, 6}}, [][]byte{{1, 2, 3}}},
			{[][]byte{{0, 0, 0}, {0, 1, 1}, {0, 0, 0}, {0, 1, 2}, {0, 1, 1}}, [][]byte{{0, 1, 0}, {0, 0, 1}}},
			{[][]byte{{1, 0, 9}, {0, 1, 8}}, [][]byte{{1, 0, 9}, {0, 1, 8}}},
			{[][]byte{{1, 1, 0}, {0, 1, 1}, {1, 0, 1}}, [][]byte{{1, 0, 1}, {0, 1, 1}}},
			{[][]byte{{1}, {2}, {3}}, [][]byte{{1}}},
			{[][]byte{{0, 0}, {0, 0}}, nil}, {[][]byte{{0}}, nil},
			{nil, nil}, {[][]byte{}, nil}, {[][]byte{{}}, nil}, {[][]byte{nil, {}, nil}, nil},
		} {
			if got := mat.Reduce(f, x.a); !same(got, x.want) {
				t.Errorf("Reduce(%v) = %v, want %v", x.a, got, x.want)
			}
			if got := mat.Rank(f, x.a); got != len(x.want) {
				t.Errorf("Rank(%v) = %d, want %d", x.a, got, len(x.want))
			}
		}
	})
}

// The reduced matrix is known here before the one that is to be reduced, which
// is made of it.
func TestReduceFindsTheRowsThatWereMixed(t *testing.T) {
	dice := rand.New(rand.NewSource(1))
	eachField(t, func(t *testing.T, f *gf.Field) {
		for _, cols := range []int{1, 2, 3, 4, 5, 8, 20, api.MaxCols - 1, api.MaxCols} {
			for range 25 {
				rank := dice.Intn(cols + 1)
				want := reduced(dice, rank, cols)
				for _, more := range []int{0, 1, 3, 40} {
					a := mixed(dice, padded(want, more, cols))[0]
					if got := mat.Reduce(f, a); !same(got, want) {
						t.Fatalf("Reduce(%v) = %v, want %v", a, got, want)
					}
					if got := mat.Rank(f, a); got != rank {
						t.Fatalf("Rank(%v) = %d, want %d", a, got, rank)
					}
				}
			}
		}
	})
}

func TestReduceOfWhatIsReduced(t *testing.T) {
	dice := rand.New(rand.NewSource(2))
	eachField(t, func(t *testing.T, f *gf.Field) {
		for range 100 {
			cols := dice.Intn(api.MaxCols) + 1
			want := reduced(dice, dice.Intn(cols+1), cols)
			if got := mat.Reduce(f, want); !same(got, want) {
				t.Fatalf("Reduce(%v) = %v", want, got)
			}
		}
	})
}

func TestReduceOfAllWholeMatrices(t *testing.T) {
	dice := rand.New(rand.NewSource(3))
	eachField(t, func(t *testing.T, f *gf.Field) {
		for n := 1; n <= api.MaxCols; n++ {
			a := mixed(dice, padded(identity(n), n%3, n))[0]
			if got := mat.Reduce(f, a); !same(got, identity(n)) {
				t.Fatalf("Reduce of %d rows that span all = %v", len(a), got)
			}
			if got := mat.Rank(f, a); got != n {
				t.Fatalf("Rank of %d rows that span all = %d, want %d", len(a), got, n)
			}
		}
	})
}

// Each of the elements other than 0 may be what a row begins with, and what
// stands below or above a beginning.
func TestReduceOfEachElement(t *testing.T) {
	g := gf.New()
	eachField(t, func(t *testing.T, f *gf.Field) {
		for x := 1; x < 256; x++ {
			b := byte(x)
			quotient, _ := g.Div(200, b)
			if got := mat.Reduce(f, [][]byte{{0, b, 200}}); !same(got, [][]byte{{0, 1, quotient}}) {
				t.Errorf("Reduce(0 %d 200) = %v", b, got)
			}
			if got := mat.Reduce(f, [][]byte{{1, 5, b}, {0, 0, 1}}); !same(got, [][]byte{{1, 5, 0}, {0, 0, 1}}) {
				t.Errorf("Reduce(1 5 %d, 0 0 1) = %v", b, got)
			}
			if got := mat.Reduce(f, [][]byte{{1, 1}, {b, b}}); !same(got, [][]byte{{1, 1}}) {
				t.Errorf("Reduce(1 1, %d %d) = %v", b, b, got)
			}
		}
	})
}

func TestReduceOfZeroAndEqualRows(t *testing.T) {
	eachField(t, func(t *testing.T, f *gf.Field) {
		for _, cols := range []int{0, 1, 5, api.MaxCols} {
			for _, rows := range []int{0, 1, 2, 300} {
				if got := mat.Reduce(f, blank(rows, cols)); len(got) != 0 {
					t.Errorf("Reduce of %d zero rows of %d: %v", rows, cols, got)
				}
				if got := mat.Rank(f, blank(rows, cols)); got != 0 {
					t.Errorf("Rank of %d zero rows of %d: %d", rows, cols, got)
				}
			}
		}
		r := []byte{0, 4, 0, 8}
		a := slices.Repeat([][]byte{r}, 300)
		if got := mat.Reduce(f, a); !same(got, [][]byte{{0, 1, 0, 2}}) || mat.Rank(f, a) != 1 {
			t.Errorf("Reduce of 300 equal rows: %v", got)
		}
	})
}

func TestReduceOfNoMatrix(t *testing.T) {
	eachField(t, func(t *testing.T, f *gf.Field) {
		for _, a := range unlike() {
			if got := mat.Reduce(f, a); len(got) != 0 {
				t.Errorf("Reduce(%v) = %v, want none", a, got)
			}
			if got := mat.Rank(f, a); got != 0 {
				t.Errorf("Rank(%v) = %d, want 0", a, got)
			}
		}
	})
}

// What the chapter says of the rows of any reduced matrix, held against any
// matrix: they are in that form, each row of a is made of them, and there are no
// more of them than a needs.
func TestReduceOfAnyMatrix(t *testing.T) {
	g := gf.New()
	dice := rand.New(rand.NewSource(4))
	eachField(t, func(t *testing.T, f *gf.Field) {
		for range 300 {
			a := some(dice, dice.Intn(9), dice.Intn(9))
			got := mat.Reduce(f, a)
			if len(got) > len(a) {
				t.Fatalf("Reduce(%v) = %v", a, got)
			}
			before := -1
			for i, r := range got {
				at := row.Lead(r)
				if at <= before || r[at] != 1 {
					t.Fatalf("Reduce(%v) = %v: row %d", a, got, i)
				}
				before = at
				for j, other := range got {
					if i != j && other[at] != 0 {
						t.Fatalf("Reduce(%v) = %v: row %d has %d in column %d", a, got, j, other[at], at)
					}
				}
			}
			for _, r := range copied(a) {
				for _, part := range got {
					c := r[row.Lead(part)]
					for k := range r {
						r[k] ^= g.Mul(c, part[k])
					}
				}
				if row.Lead(r) >= 0 {
					t.Fatalf("Reduce(%v) = %v: %v is left of a row", a, got, r)
				}
			}
		}
	})
}

// P3.2: Mul

func TestMulWrittenOut(t *testing.T) {
	eachField(t, func(t *testing.T, f *gf.Field) {
		for _, x := range []struct{ a, x, want [][]byte }{
			{[][]byte{{2}}, [][]byte{{128}}, [][]byte{{27}}},
			{[][]byte{{1, 2}}, [][]byte{{3}, {1}}, [][]byte{{1}}},
			{[][]byte{{2, 1}, {0, 1}, {1, 1}}, [][]byte{{128, 1}, {4, 4}}, [][]byte{{31, 6}, {4, 4}, {132, 5}}},
			{[][]byte{{1, 0}, {0, 0}}, [][]byte{{7, 8, 9}, {1, 1, 1}}, [][]byte{{7, 8, 9}, {0, 0, 0}}},
			{[][]byte{{1}, {2}, {3}}, [][]byte{{1, 128}}, [][]byte{{1, 128}, {2, 27}, {3, 155}}},
		} {
			if got, ok := mat.Mul(f, x.a, x.x); !ok || !same(got, x.want) {
				t.Errorf("Mul(%v, %v) = %v, %v, want %v, true", x.a, x.x, got, ok, x.want)
			}
		}
	})
}

func TestMul(t *testing.T) {
	dice := rand.New(rand.NewSource(5))
	sizes := []int{1, 2, 3, 7, 20, api.MaxCols}
	eachField(t, func(t *testing.T, f *gf.Field) {
		for _, rows := range append(sizes, 100) {
			for _, inner := range sizes {
				for _, cols := range sizes {
					a, x := some(dice, rows, inner), some(dice, inner, cols)
					if got, ok := mat.Mul(f, a, x); !ok || !same(got, product(a, x)) {
						t.Fatalf("Mul(%v, %v) = %v, %v", a, x, got, ok)
					}
				}
			}
		}
	})
}

func TestMulByOnes(t *testing.T) {
	dice := rand.New(rand.NewSource(6))
	eachField(t, func(t *testing.T, f *gf.Field) {
		for n := 1; n <= api.MaxCols; n++ {
			x := some(dice, n, 5)
			if got, ok := mat.Mul(f, identity(n), x); !ok || !same(got, x) {
				t.Errorf("Mul by %d ones changes %v to %v, %v", n, x, got, ok)
			}
			a := some(dice, 5, n)
			if got, ok := mat.Mul(f, a, identity(n)); !ok || !same(got, a) {
				t.Errorf("Mul of %v by %d ones: %v, %v", a, n, got, ok)
			}
		}
	})
}

func TestMulOfMatricesWithoutRowsOrColumns(t *testing.T) {
	eachField(t, func(t *testing.T, f *gf.Field) {
		for _, x := range []struct{ a, x, want [][]byte }{
			{nil, nil, nil}, {[][]byte{}, nil, nil}, {nil, [][]byte{}, nil},
			{nil, [][]byte{{}}, nil}, {nil, [][]byte{{1}}, nil}, {nil, blank(3, 5), nil},
			{nil, blank(api.MaxCols+9, api.MaxCols), nil},
			{[][]byte{{}}, nil, [][]byte{{}}}, {[][]byte{nil, {}, nil}, [][]byte{}, blank(3, 0)},
			{[][]byte{{1}}, [][]byte{{}}, [][]byte{{}}}, {blank(4, 3), blank(3, 0), blank(4, 0)},
		} {
			if got, ok := mat.Mul(f, x.a, x.x); !ok || !same(got, x.want) {
				t.Errorf("Mul(%v, %v) = %v, %v, want %v, true", x.a, x.x, got, ok, x.want)
			}
		}
	})
}

func TestMulOfWhatDoesNotFit(t *testing.T) {
	eachField(t, func(t *testing.T, f *gf.Field) {
		for _, cols := range []int{0, 1, 2, 3, 9, api.MaxCols - 1, api.MaxCols} {
			for _, rows := range []int{0, 1, 2, 3, 9, api.MaxCols - 1, api.MaxCols, api.MaxCols + 1, 200} {
				for _, n := range []int{1, 3, rows} {
					if n == 0 || cols == rows {
						continue
					}
					if got, ok := mat.Mul(f, blank(n, cols), blank(rows, 2)); len(got) != 0 || ok {
						t.Errorf("Mul of %d columns and %d rows: %v, %v, want none, false", cols, rows, got, ok)
					}
				}
			}
		}
	})
}

func TestMulOfNoMatrix(t *testing.T) {
	eachField(t, func(t *testing.T, f *gf.Field) {
		for _, bad := range unlike() {
			inner := len(bad[0])
			for _, x := range [][][]byte{nil, {{}}, blank(inner, 2), blank(inner, 0), blank(1, 1), bad} {
				if got, ok := mat.Mul(f, bad, x); len(got) != 0 || ok {
					t.Errorf("Mul(%v, %v) = %v, %v, want none, false", bad, x, got, ok)
				}
			}
			for _, a := range [][][]byte{nil, {}, {{}}, blank(2, len(bad)), blank(1, 1)} {
				if got, ok := mat.Mul(f, a, bad); len(got) != 0 || ok {
					t.Errorf("Mul(%v, %v) = %v, %v, want none, false", a, bad, got, ok)
				}
			}
		}
	})
}

// P3.2: Solve

func TestSolveWrittenOut(t *testing.T) {
	eachField(t, func(t *testing.T, f *gf.Field) {
		for _, x := range []struct{ a, b, want [][]byte }{
			{[][]byte{{2}}, [][]byte{{27}}, [][]byte{{128}}},
			{[][]byte{{0, 1}, {1, 0}}, [][]byte{{5, 6}, {7, 8}}, [][]byte{{7, 8}, {5, 6}}},
			{[][]byte{{2, 1}, {0, 1}, {1, 1}}, [][]byte{{31, 6}, {4, 4}, {132, 5}}, [][]byte{{128, 1}, {4, 4}}},
			{[][]byte{{0}, {3}, {0}}, [][]byte{{0, 0}, {3, 6}, {0, 0}}, [][]byte{{1, 2}}},
			{[][]byte{{1, 1}, {1, 0}, {1, 1}}, [][]byte{{3}, {1}, {3}}, [][]byte{{1}, {2}}},
			{[][]byte{{7}}, [][]byte{{0, 0, 0}}, [][]byte{{0, 0, 0}}},
			{identity(3), blank(3, 0), blank(3, 0)}, {[][]byte{{1}, {9}}, [][]byte{{}, nil}, [][]byte{{}}},
			{[][]byte{{}}, [][]byte{{}}, nil}, {[][]byte{nil, {}}, [][]byte{{}, nil}, nil},
		} {
			if got, e := mat.Solve(f, x.a, x.b); e != api.OK || !same(got, x.want) {
				t.Errorf("Solve(%v, %v) = %v, %d, want %v, OK", x.a, x.b, got, e, x.want)
			}
		}
	})
}

// whole is a matrix that determines what it is multiplied by, with as many rows
// more than columns as told.
func whole(dice *rand.Rand, cols, more int) [][]byte {
	return mixed(dice, padded(identity(cols), more, cols))[0]
}

func TestSolveFindsWhatWasMultiplied(t *testing.T) {
	dice := rand.New(rand.NewSource(7))
	eachField(t, func(t *testing.T, f *gf.Field) {
		for _, cols := range []int{1, 2, 3, 6, 20, api.MaxCols - 1, api.MaxCols} {
			for _, more := range []int{0, 1, 5, 70} {
				for _, wide := range []int{0, 1, 2, 24, api.MaxCols} {
					a, want := whole(dice, cols, more), some(dice, cols, wide)
					if got, e := mat.Solve(f, a, product(a, want)); e != api.OK || !same(got, want) {
						t.Fatalf("Solve of %d rows and %d columns: %v, %d, want %v", len(a), cols, got, e, want)
					}
				}
			}
		}
	})
}

func TestSolveOfAMatrixAndItself(t *testing.T) {
	dice := rand.New(rand.NewSource(8))
	eachField(t, func(t *testing.T, f *gf.Field) {
		for _, cols := range []int{1, 2, 5, api.MaxCols} {
			a := whole(dice, cols, 4)
			if got, e := mat.Solve(f, a, a); e != api.OK || !same(got, identity(cols)) {
				t.Errorf("Solve(a, a) of %d columns: %v, %d", cols, got, e)
			}
		}
	})
}

// refuses holds what Solve answers against an error, with which it returns none.
func refuses(t *testing.T, f *gf.Field, a, b [][]byte, want api.Errno) {
	t.Helper()
	if got, e := mat.Solve(f, a, b); len(got) != 0 || e != want {
		t.Errorf("Solve(%v, %v) = %v, %d, want none, %d", a, b, got, e, want)
	}
}

func TestSolveErrArg(t *testing.T) {
	eachField(t, func(t *testing.T, f *gf.Field) {
		for _, bad := range unlike() {
			for _, good := range [][][]byte{blank(len(bad), 0), blank(len(bad), 1), blank(len(bad), 7), nil, bad} {
				refuses(t, f, bad, good, api.ErrArg)
				refuses(t, f, good, bad, api.ErrArg)
			}
		}
		for _, rows := range []int{0, 1, 2, 3, 8, 200} {
			for _, others := range []int{0, 1, 2, 3, 8, 200} {
				if rows != others {
					refuses(t, f, blank(rows, 0), blank(others, 0), api.ErrArg)
					refuses(t, f, blank(rows, 2), blank(others, 2), api.ErrArg)
				}
			}
		}
		refuses(t, f, nil, nil, api.ErrArg)
		refuses(t, f, [][]byte{}, nil, api.ErrArg)
		refuses(t, f, nil, [][]byte{}, api.ErrArg)
		refuses(t, f, identity(3), identity(4), api.ErrArg)
		refuses(t, f, identity(4), identity(3), api.ErrArg)
		refuses(t, f, identity(api.MaxCols+1), blank(api.MaxCols+1, 1), api.ErrArg)
		refuses(t, f, identity(2), blank(2, api.MaxCols+1), api.ErrArg)
	})
}

func TestSolveErrRank(t *testing.T) {
	dice := rand.New(rand.NewSource(9))
	eachField(t, func(t *testing.T, f *gf.Field) {
		for _, cols := range []int{1, 2, 3, 8, api.MaxCols} {
			for rank := max(0, cols-5); rank < cols; rank++ {
				for _, more := range []int{1, 2, 90} {
					a := mixed(dice, padded(reduced(dice, rank, cols), more, cols))[0]
					refuses(t, f, a, product(a, some(dice, cols, 3)), api.ErrRank)
					refuses(t, f, a, blank(len(a), 0), api.ErrRank)
				}
			}
		}
		refuses(t, f, [][]byte{{1, 1}}, [][]byte{{1}}, api.ErrRank)
		refuses(t, f, [][]byte{{1, 1}, {1, 1}}, [][]byte{{1}, {1}}, api.ErrRank)
		refuses(t, f, [][]byte{{1, 2}, {2, 4}, {3, 6}}, [][]byte{{1}, {2}, {3}}, api.ErrRank)
		refuses(t, f, [][]byte{{0}}, [][]byte{{0}}, api.ErrRank)
	})
}

// A row that a does not reach has something else than 0 to be here: before they
// are mixed this is to be seen.
func TestSolveErrClash(t *testing.T) {
	dice := rand.New(rand.NewSource(10))
	eachField(t, func(t *testing.T, f *gf.Field) {
		for _, cols := range []int{1, 2, 3, 8, 20, api.MaxCols} {
			for _, wide := range []int{1, 2, 24, api.MaxCols} {
				for _, more := range []int{1, 2, 30} {
					b := padded(some(dice, cols, wide), more, wide)
					b[cols+dice.Intn(more)][dice.Intn(wide)] = byte(dice.Intn(255) + 1)
					both := mixed(dice, padded(identity(cols), more, cols), b)
					refuses(t, f, both[0], both[1], api.ErrClash)
				}
			}
		}
		refuses(t, f, [][]byte{{1}, {1}}, [][]byte{{1}, {2}}, api.ErrClash)
		refuses(t, f, [][]byte{{1}, {2}}, [][]byte{{128, 1}, {27, 3}}, api.ErrClash)
		refuses(t, f, [][]byte{{1}, {0}}, [][]byte{{1}, {1}}, api.ErrClash)
		refuses(t, f, [][]byte{{0}, {1}}, [][]byte{{1}, {1}}, api.ErrClash)
		refuses(t, f, [][]byte{{1, 0}, {0, 1}, {1, 1}}, [][]byte{{0, 1}, {0, 2}, {0, 0}}, api.ErrClash)
	})
}

// A matrix without columns has the rank that it needs. The x of no rows makes a
// row of zeros of it, and nothing else.
func TestSolveWithoutColumns(t *testing.T) {
	eachField(t, func(t *testing.T, f *gf.Field) {
		for _, rows := range []int{1, 2, 9} {
			for _, wide := range []int{0, 1, api.MaxCols} {
				b := blank(rows, wide)
				if got, e := mat.Solve(f, blank(rows, 0), b); len(got) != 0 || e != api.OK {
					t.Errorf("Solve of %d rows without columns, b of %d zeros: %v, %d", rows, wide, got, e)
				}
				if wide > 0 {
					b[rows-1][wide-1] = 1
					refuses(t, f, blank(rows, 0), b, api.ErrClash)
				}
			}
		}
	})
}

// R2: of several errors that apply the one that is named first is returned.
func TestSolveErrorsInTheirOrder(t *testing.T) {
	eachField(t, func(t *testing.T, f *gf.Field) {
		wide := make([]byte, api.MaxCols+1)
		// Not enough columns are determined, and there is no x besides: ErrRank.
		refuses(t, f, [][]byte{{1, 1}, {1, 1}}, [][]byte{{1}, {2}}, api.ErrRank)
		refuses(t, f, [][]byte{{0}}, [][]byte{{1}}, api.ErrRank)
		refuses(t, f, [][]byte{{0, 1}, {0, 2}, {0, 0}}, [][]byte{{1}, {1}, {1}}, api.ErrRank)
		refuses(t, f, blank(5, api.MaxCols), slices.Repeat([][]byte{{7}}, 5), api.ErrRank)
		// What is no matrix, or has another number of rows, comes before both.
		refuses(t, f, [][]byte{{1, 1}, {1, 1}}, [][]byte{{1}}, api.ErrArg)
		refuses(t, f, [][]byte{{1, 1}, {1, 1}}, [][]byte{{1}, {2}, {3}}, api.ErrArg)
		refuses(t, f, [][]byte{{1, 1}, {1, 1}}, [][]byte{{1}, {2, 2}}, api.ErrArg)
		refuses(t, f, [][]byte{{1, 1}, {1}}, [][]byte{{1}, {2}}, api.ErrArg)
		refuses(t, f, [][]byte{{0}}, nil, api.ErrArg)
		refuses(t, f, [][]byte{{0}}, [][]byte{wide}, api.ErrArg)
		refuses(t, f, [][]byte{wide}, [][]byte{{1}}, api.ErrArg)
		refuses(t, f, [][]byte{{1}, {1}}, [][]byte{{1}, {2}, {2}}, api.ErrArg)
		refuses(t, f, [][]byte{{1}, {1}}, [][]byte{{1}, {2, 1}}, api.ErrArg)
	})
}

// P3.2: Mul and Solve belong together.
func TestSolveAnswersWhatMulAsks(t *testing.T) {
	dice := rand.New(rand.NewSource(11))
	f := gf.New()
	seen := map[api.Errno]int{}
	for range 4000 {
		rows, cols := dice.Intn(4)+1, dice.Intn(3)+1
		a, b := some(dice, rows, cols), some(dice, rows, dice.Intn(2)+1)
		x, e := mat.Solve(f, a, b)
		seen[e]++
		back, ok := mat.Mul(f, a, x)
		rank, with := mat.Rank(f, a), mat.Rank(f, beside(a, b))
		switch {
		case rank < cols:
			ok = e == api.ErrRank
		case with > rank:
			ok = e == api.ErrClash
		default:
			ok = ok && e == api.OK && same(back, b)
		}
		if !ok || e != api.OK && len(x) != 0 {
			t.Fatalf("Solve(%v, %v) = %v, %d", a, b, x, e)
		}
	}
	for _, e := range []api.Errno{api.OK, api.ErrRank, api.ErrClash} {
		if seen[e] < 100 {
			t.Errorf("%d was answered %d times only", e, seen[e])
		}
	}
}

// beside is the rows of a, each followed by that of b.
func beside(a, b [][]byte) [][]byte {
	list := copied(a)
	for i := range list {
		list[i] = append(list[i], b[i]...)
	}
	return list
}

// R3

// made is a call whose answer is a new list of rows.
type made struct {
	name string
	call func(f *gf.Field, a, b [][]byte) [][]byte
}

// answers are the calls that return a list of rows.
func answers() []made {
	return []made{
		{"Reduce", func(f *gf.Field, a, _ [][]byte) [][]byte { return mat.Reduce(f, a) }},
		{"Reduce of the other", func(f *gf.Field, _, b [][]byte) [][]byte { return mat.Reduce(f, b) }},
		{"Mul", func(f *gf.Field, a, b [][]byte) [][]byte { x, _ := mat.Mul(f, a, b); return x }},
		{"Solve", func(f *gf.Field, a, b [][]byte) [][]byte { x, _ := mat.Solve(f, a, b); return x }},
		{"Solve by itself", func(f *gf.Field, a, _ [][]byte) [][]byte { x, _ := mat.Solve(f, a, a); return x }},
	}
}

// lent is a list in the midst of a longer one, its rows in the midst of longer
// ones, so that a write beside them, into their spare capacity too, is found.
type lent struct {
	list, heads [][]byte // the longer list now, and which rows it had
	rows, bytes [][]byte // the longer rows now, and what they were
}

func lend(a [][]byte) (lent, [][]byte) {
	var l lent
	for _, r := range slices.Concat(blank(2, 3), a, blank(3, 3)) {
		whole := bytes.Repeat([]byte{0xa5}, len(r)+30)
		copy(whole[10:], r)
		l.rows, l.bytes = append(l.rows, whole), append(l.bytes, bytes.Clone(whole))
		l.list = append(l.list, whole[10:10+len(r)])
	}
	l.heads = slices.Clone(l.list)
	return l, l.list[2 : 2+len(a)]
}

func (l lent) changed() bool {
	for i, r := range l.list {
		h := l.heads[i]
		if unsafe.SliceData(r) != unsafe.SliceData(h) || len(r) != len(h) || cap(r) != cap(h) {
			return true
		}
	}
	return !same(l.rows, l.bytes)
}

// pairsForR3 are matrices, of which some are such that a short way that hands
// out an argument, or a row of it, would be at hand: what is reduced already,
// ones, zeros, equal rows. Others are such that an error or false is answered.
func pairsForR3() [][2][][]byte {
	dice := rand.New(rand.NewSource(12))
	twice := []byte{1, 2, 3}
	clash := append(identity(3), []byte{1, 1, 1})
	pairs := [][2][][]byte{
		{identity(3), identity(3)}, {identity(3), some(dice, 3, 5)}, {some(dice, 2, 3), identity(3)},
		{identity(1), [][]byte{{0}}}, {identity(4), blank(4, 2)}, {blank(4, 4), some(dice, 4, 4)},
		{reduced(dice, 3, 6), some(dice, 6, 2)}, {[][]byte{twice, twice, twice}, identity(3)},
		{clash, append(identity(3), []byte{1, 1, 1})}, {clash, append(identity(3), []byte{1, 1, 2})},
		{[][]byte{{0, 0}, {1, 0}, {0, 0}, {0, 1}}, [][]byte{{0}, {9}, {0}, {8}}},
		{nil, nil}, {nil, identity(2)}, {blank(3, 0), nil}, {blank(3, 0), blank(3, 0)}, {identity(3), blank(3, 0)},
	}
	for _, n := range []int{1, 2, 5, 20, api.MaxCols} {
		pairs = append(pairs, [2][][]byte{whole(dice, n, 0), some(dice, n, 3)})
		a := whole(dice, n, 3)
		pairs = append(pairs, [2][][]byte{a, product(a, some(dice, n, 4))})
	}
	for _, bad := range unlike() {
		pairs = append(pairs, [2][][]byte{bad, identity(len(bad))}, [2][][]byte{identity(len(bad)), bad})
	}
	return pairs
}

func TestNoArgumentIsChanged(t *testing.T) {
	f := gf.New()
	before := *f
	for _, x := range pairsForR3() {
		la, a := lend(x[0])
		lb, b := lend(x[1])
		for _, m := range answers() {
			m.call(f, a, b)
			m.call(nil, a, b)
			if la.changed() || lb.changed() {
				t.Fatalf("%s changes an argument: %v, %v", m.name, a, b)
			}
		}
		mat.May(a)
		mat.Rank(f, a)
		if la.changed() || lb.changed() {
			t.Fatalf("May or Rank changes an argument: %v", a)
		}
	}
	if *f != before {
		t.Error("the Field has changed")
	}
}

// overwrite changes every element of every row, and every row of the list, with
// what they could be lengthened by.
func overwrite(list [][]byte) {
	list = list[:cap(list)]
	for i, r := range list {
		spoil(r)
		list[i] = []byte{77}
	}
}

func spoil(r []byte) {
	r = r[:cap(r)]
	for i := range r {
		r[i] ^= 0x5a
	}
}

func TestResultsAreNewMemory(t *testing.T) {
	eachField(t, func(t *testing.T, f *gf.Field) {
		for _, x := range pairsForR3() {
			for _, m := range answers() {
				la, a := lend(x[0])
				lb, b := lend(x[1])
				first, second := m.call(f, a, b), m.call(f, a, b)
				want := copied(second)
				overwrite(first)
				if la.changed() || lb.changed() {
					t.Fatalf("%s: writing into the result changes an argument: %v, %v", m.name, x[0], x[1])
				}
				if !same(second, want) {
					t.Fatalf("%s: writing into a result changes another one: %v, %v", m.name, x[0], x[1])
				}
				if again := m.call(f, a, b); !same(again, want) {
					t.Fatalf("%s: writing into a result changes a later one: %v, %v", m.name, x[0], x[1])
				}
				overwrite(a)
				overwrite(b)
				if !same(second, want) {
					t.Fatalf("%s: writing into an argument changes a result: %v, %v", m.name, x[0], x[1])
				}
			}
		}
	})
}

func TestRowsOfOneResultShareNothing(t *testing.T) {
	eachField(t, func(t *testing.T, f *gf.Field) {
		for _, x := range pairsForR3() {
			for _, m := range answers() {
				got := m.call(f, x[0], x[1])
				want := copied(got)
				for i, r := range got {
					if !bytes.Equal(r, want[i]) {
						t.Fatalf("%s: writing into a row of the result changes row %d", m.name, i)
					}
					spoil(r)
				}
			}
		}
	})
}

// Arguments may be one and the same list, or have one row several times.
func TestArgumentsThatShareMemory(t *testing.T) {
	eachField(t, func(t *testing.T, f *gf.Field) {
		whole := []byte{1, 2, 3, 4, 5, 6}
		a := [][]byte{whole[0:3], whole[1:4], whole[3:6], whole[0:3]}
		own := copied(a)
		if got, want := mat.Reduce(f, a), mat.Reduce(f, own); !same(got, want) {
			t.Errorf("Reduce: %v, want %v", got, want)
		}
		square := a[:3]
		if got, ok := mat.Mul(f, square, square); !ok || !same(got, product(own[:3], own[:3])) {
			t.Errorf("Mul: %v, %v", got, ok)
		}
		if got, e := mat.Solve(f, square, square); e != api.OK || !same(got, identity(3)) {
			t.Errorf("Solve: %v, %d", got, e)
		}
		if !bytes.Equal(whole, []byte{1, 2, 3, 4, 5, 6}) {
			t.Error("the rows have changed:", whole)
		}
	})
}

// R5: one Field and the same matrices may be used by several at once.
func TestManyAtOnce(t *testing.T) {
	f := gf.New()
	dice := rand.New(rand.NewSource(13))
	a, x := whole(dice, 12, 4), some(dice, 12, 6)
	b := product(a, x)
	var wait sync.WaitGroup
	for range 4 {
		wait.Go(func() {
			for range 20 {
				got, e := mat.Solve(f, a, b)
				back, ok := mat.Mul(f, a, x)
				if e != api.OK || !ok || !same(got, x) || !same(back, b) || mat.Rank(f, a) != 12 {
					t.Error("another answer to the same question")
				}
			}
		})
	}
	wait.Wait()
}

func Example() {
	f := gf.New()
	a := [][]byte{{1, 1}, {0, 2}, {1, 3}}
	fmt.Println(mat.Rank(f, [][]byte{{1, 1}, {1, 1}}), mat.Reduce(f, a))
	b, ok := mat.Mul(f, a, [][]byte{{7}, {128}})
	fmt.Println(b, ok)
	x, e := mat.Solve(f, a, b)
	fmt.Println(x, e == api.OK)
	// Output:
	// 1 [[1 0] [0 1]]
	// [[135] [27] [156]] true
	// [[7] [128]] true
}
