package pre_test

import (
	"bytes"
	"fmt"
	"math"
	"slices"
	"sync"
	"testing"

	"wellspring/api"
	"wellspring/gf"
	"wellspring/pre"
)

// times is a product in the field by the definition of chapter 1, bit by bit,
// without package gf.
func times(a, b int) int {
	product := 0
	for ; b > 0; b >>= 1 {
		if b&1 == 1 {
			product ^= a
		}
		if a <<= 1; a >= 256 {
			a ^= 0x11b
		}
	}
	return product
}

// power is 3^n, one product after another.
func power(n int) byte {
	x := 1
	for range n {
		x = times(x, 3)
	}
	return byte(x)
}

// element is what row h has at index i by the chapter's words.
func element(k, h, i int) byte {
	if i < k {
		return power((h + 1) * (i + 1))
	}
	if i == k+h {
		return 1
	}
	return 0
}

// wanted is what Rows returns of K and H by the chapter's words.
func wanted(k, h int) [][]byte {
	list := [][]byte{}
	for len(list) < h {
		r := []byte{}
		for len(r) < k+h {
			r = append(r, element(k, len(list), len(r)))
		}
		list = append(list, r)
	}
	return list
}

func same(a, b [][]byte) bool {
	return slices.EqualFunc(a, b, bytes.Equal)
}

// valid are all parameters that are.
func valid() []api.Params {
	var list []api.Params
	for k := 1; k <= api.MaxK; k++ {
		for h := 1; h <= api.MaxH; h++ {
			for size := 1; size <= api.MaxSize; size++ {
				list = append(list, api.Params{K: k, H: h, Size: size})
			}
		}
	}
	return list
}

// far are numbers that no K, H or Size may be. Cut to 8, 16 or 32 bits, or without
// their sign, many of them could be.
func far() []int {
	list := []int{
		0, 25, 26, 63, 64, 65, 100, 127, 128, 255, 256, 65535, 65536,
		math.MaxInt32, math.MaxInt32 + 1, math.MaxUint32, 1 << 32, 1 << 40, 1 << 62, math.MaxInt - 1, math.MaxInt,
		math.MinInt32, math.MinInt32 - 1, math.MinInt, -1 << 32, -1 << 62,
	}
	for n := 1; n <= api.MaxSize; n++ {
		list = append(list, -n, 256+n, 256-n-api.MaxSize, 1<<16+n, 1<<31+n, 1<<32+n, 1<<63-1-n,
			n-256, n-1<<16, n-1<<31, n-1<<32, n+math.MinInt)
	}
	return list
}

// outside are the numbers that a parameter whose greatest value is most may not
// have, the first ones behind its ends among them.
func outside(most int) []int {
	list := far()
	for n := most + 1; n <= 2*most+2; n++ {
		list = append(list, n)
	}
	return list
}

// wrong are parameters one of which is wrong, or two, or all three.
func wrong() []api.Params {
	var list []api.Params
	for _, k := range outside(api.MaxK) {
		for _, n := range []int{1, 2, api.MaxH} {
			for _, size := range []int{1, 7, api.MaxSize} {
				list = append(list, api.Params{K: k, H: n, Size: size})
			}
		}
	}
	for _, h := range outside(api.MaxH) {
		for _, n := range []int{1, 9, api.MaxK} {
			for _, size := range []int{1, 7, api.MaxSize} {
				list = append(list, api.Params{K: n, H: h, Size: size})
			}
		}
	}
	for _, size := range outside(api.MaxSize) {
		for _, k := range []int{1, 9, api.MaxK} {
			for _, h := range []int{1, 2, api.MaxH} {
				list = append(list, api.Params{K: k, H: h, Size: size})
			}
		}
	}
	ends := []int{math.MinInt, -257, -1, 0, 25, 257, 1<<32 + 1, math.MaxInt}
	for _, a := range ends {
		for _, b := range ends {
			list = append(list, api.Params{K: 3, H: a, Size: b}, api.Params{K: a, H: 3, Size: b}, api.Params{K: a, H: b, Size: 3})
			for _, c := range ends {
				list = append(list, api.Params{K: a, H: b, Size: c})
			}
		}
	}
	return list
}

// P8.1: May

func TestMayOfAllValid(t *testing.T) {
	for _, p := range valid() {
		if !pre.May(p) {
			t.Fatalf("May(%v) = false", p)
		}
	}
}

// Every combination around the ends: valid if each of the three is.
func TestMayAroundTheEnds(t *testing.T) {
	around := func(most int) []int {
		return []int{-most, -2, -1, 0, 1, 2, most - 1, most, most + 1, most + 2, 2 * most, 256 + 1, 256 + most}
	}
	inside := func(n, most int) bool { return 0 < n && n < most+1 }
	for _, k := range around(16) {
		for _, h := range around(4) {
			for _, size := range around(24) {
				p := api.Params{K: k, H: h, Size: size}
				want := inside(k, 16) && inside(h, 4) && inside(size, 24)
				if got := pre.May(p); got != want {
					t.Errorf("May(%v) = %t, want %t", p, got, want)
				}
			}
		}
	}
}

func TestMayAtTheEnds(t *testing.T) {
	for _, c := range []struct {
		k, h, size int
		want       bool
	}{
		{1, 1, 1, true},
		{16, 4, 24, true},
		{16, 1, 1, true},
		{1, 4, 1, true},
		{1, 1, 24, true},
		{0, 1, 1, false},
		{1, 0, 1, false},
		{1, 1, 0, false},
		{-1, 1, 1, false},
		{1, -1, 1, false},
		{1, 1, -1, false},
		{17, 4, 24, false},
		{16, 5, 24, false},
		{16, 4, 25, false},
		{0, 0, 0, false},
		{0, 0, 1, false},
		{0, 1, 0, false},
		{1, 0, 0, false},
		{-1, -1, 1, false},
		{-1, -1, -1, false},
		{17, 5, 24, false},
		{17, 4, 25, false},
		{16, 5, 25, false},
		{17, 5, 25, false},
		{0, 5, 24, false},
		{17, 0, 24, false},
		{-4, -4, -4, false},
		{4, 16, 24, false},
		{24, 4, 16, false},
	} {
		p := api.Params{K: c.k, H: c.h, Size: c.size}
		if got := pre.May(p); got != c.want {
			t.Errorf("May(%v) = %t, want %t", p, got, c.want)
		}
	}
}

func TestMayOfWrong(t *testing.T) {
	for _, p := range wrong() {
		if pre.May(p) {
			t.Errorf("May(%v) = true", p)
		}
	}
}

// P8.1: Cols

func TestColsOfAllValid(t *testing.T) {
	for _, p := range valid() {
		if got := pre.Cols(p); got != p.K+p.H {
			t.Fatalf("Cols(%v) = %d, want %d", p, got, p.K+p.H)
		}
	}
}

func TestColsWrittenOut(t *testing.T) {
	for _, c := range []struct{ k, h, size, want int }{
		{1, 1, 1, 2}, {1, 4, 24, 5}, {16, 1, 1, 17}, {16, 4, 24, 20}, {10, 3, 7, 13}, {2, 3, 24, 5},
	} {
		p := api.Params{K: c.k, H: c.h, Size: c.size}
		if got := pre.Cols(p); got != c.want {
			t.Errorf("Cols(%v) = %d, want %d", p, got, c.want)
		}
	}
}

func TestColsOfWrong(t *testing.T) {
	for _, p := range wrong() {
		if got := pre.Cols(p); got != 0 {
			t.Errorf("Cols(%v) = %d, want 0", p, got)
		}
	}
}

// P8.1: Rows

func TestRowsOfTheExample(t *testing.T) {
	got := pre.Rows(api.Params{K: 1, H: 1, Size: 1})
	if len(got) != 1 || !bytes.Equal(got[0], []byte{3, 1}) {
		t.Errorf("Rows of K 1, H 1 = %v, want 3 1", got)
	}
}

func TestRowsWrittenOut(t *testing.T) {
	for _, c := range []struct {
		k, h int
		want [][]byte
	}{
		{2, 1, [][]byte{
			{3, 5, 1},
		}},
		{1, 2, [][]byte{
			{3, 1, 0},
			{5, 0, 1},
		}},
		{3, 2, [][]byte{
			{3, 5, 15, 1, 0},
			{5, 17, 85, 0, 1},
		}},
		{1, 4, [][]byte{
			{3, 1, 0, 0, 0},
			{5, 0, 1, 0, 0},
			{15, 0, 0, 1, 0},
			{17, 0, 0, 0, 1},
		}},
		{4, 4, [][]byte{
			{3, 5, 15, 17, 1, 0, 0, 0},
			{5, 17, 85, 26, 0, 1, 0, 0},
			{15, 85, 46, 161, 0, 0, 1, 0},
			{17, 26, 161, 95, 0, 0, 0, 1},
		}},
		{10, 3, [][]byte{
			{3, 5, 15, 17, 51, 85, 255, 26, 46, 114, 1, 0, 0},
			{5, 17, 85, 26, 114, 161, 19, 95, 56, 216, 0, 1, 0},
			{15, 85, 46, 161, 53, 56, 115, 247, 10, 102, 0, 0, 1},
		}},
		{16, 1, [][]byte{
			{3, 5, 15, 17, 51, 85, 255, 26, 46, 114, 150, 161, 248, 19, 53, 95, 1},
		}},
		{16, 4, [][]byte{
			{3, 5, 15, 17, 51, 85, 255, 26, 46, 114, 150, 161, 248, 19, 53, 95, 1, 0, 0, 0},
			{5, 17, 85, 26, 114, 161, 19, 95, 56, 216, 149, 247, 6, 30, 102, 229, 0, 1, 0, 0},
			{15, 85, 46, 161, 53, 56, 115, 247, 10, 102, 52, 55, 38, 217, 171, 83, 0, 0, 1, 0},
			{17, 26, 161, 95, 216, 247, 30, 229, 55, 106, 144, 83, 20, 79, 211, 76, 0, 0, 0, 1},
		}},
	} {
		p := api.Params{K: c.k, H: c.h, Size: 5}
		if got := pre.Rows(p); !same(got, c.want) {
			t.Errorf("Rows(%v) = %v, want %v", p, got, c.want)
		}
	}
}

func TestRowsOfAllValid(t *testing.T) {
	for _, p := range valid() {
		rows := pre.Rows(p)
		if len(rows) != p.H {
			t.Fatalf("Rows(%v) has %d rows, want %d", p, len(rows), p.H)
		}
		for h, r := range rows {
			if len(r) != p.K+p.H {
				t.Fatalf("row %d of Rows(%v) has %d bytes, want %d", h, p, len(r), p.K+p.H)
			}
			for i, got := range r {
				if want := element(p.K, h, i); got != want {
					t.Fatalf("byte %d of row %d of Rows(%v) is %d, want %d", i, h, p, got, want)
				}
			}
		}
	}
}

// The elements below K are powers of 3 by package gf too.
func TestRowsByTheField(t *testing.T) {
	f := gf.New()
	for _, p := range valid() {
		for h, r := range pre.Rows(p) {
			for j, got := range r[:p.K] {
				if want := f.Exp((h + 1) * (j + 1)); got != want {
					t.Fatalf("byte %d of row %d of Rows(%v) is %d, want %d", j, h, p, got, want)
				}
			}
		}
	}
}

func TestSizePlaysNoPart(t *testing.T) {
	for _, p := range valid() {
		one := api.Params{K: p.K, H: p.H, Size: 1}
		if got, want := pre.Cols(p), pre.Cols(one); got != want {
			t.Fatalf("Cols(%v) = %d, but Cols(%v) = %d", p, got, one, want)
		}
		if got, want := pre.Rows(p), pre.Rows(one); !same(got, want) {
			t.Fatalf("Rows(%v) = %v, but Rows(%v) = %v", p, got, one, want)
		}
	}
}

func TestRowsOfWrong(t *testing.T) {
	for _, p := range wrong() {
		if got := pre.Rows(p); len(got) != 0 {
			t.Errorf("Rows(%v) = %v, want none", p, got)
		}
	}
}

// R3: what is returned is new memory each time, and no two rows share any

// spoil writes over a row, and over what lies behind it.
func spoil(r []byte) {
	whole := r[:cap(r)]
	for i := range whole {
		whole[i] = 0xee
	}
}

func TestRowsAreNewMemory(t *testing.T) {
	for _, p := range valid() {
		first, second, want := pre.Rows(p), pre.Rows(p), wanted(p.K, p.H)
		for _, r := range first {
			spoil(r)
		}
		clear(first[:cap(first)])
		if !same(second, want) {
			t.Fatalf("what was written into one Rows(%v) is in another: %v", p, second)
		}
		if third := pre.Rows(p); !same(third, want) {
			t.Fatalf("what was written into one Rows(%v) is in a later one: %v", p, third)
		}
	}
}

func TestRowsApart(t *testing.T) {
	for k := 1; k <= api.MaxK; k++ {
		for h := 1; h <= api.MaxH; h++ {
			want := wanted(k, h)
			for i := range h {
				rows := pre.Rows(api.Params{K: k, H: h, Size: 1})
				spoil(rows[i])
				for j, r := range rows {
					if j != i && !bytes.Equal(r, want[j]) {
						t.Fatalf("K %d, H %d: what was written into row %d is in row %d: %v", k, h, i, j, r)
					}
				}
			}
		}
	}
}

// A row that is appended to does not grow into the next one.
func TestRowsThatGrow(t *testing.T) {
	for _, p := range valid() {
		rows, want := pre.Rows(p), wanted(p.K, p.H)
		for i := range rows {
			spoil(append(rows[i], 7)[p.K+p.H:])
		}
		if !same(rows, want) {
			t.Fatalf("Rows(%v), with each row appended to, is %v", p, rows)
		}
	}
}

// All of them held at once, those of other parameters too.
func TestRowsOfAllHeldAtOnce(t *testing.T) {
	var held [][][]byte
	for _, p := range valid() {
		held = append(held, pre.Rows(p))
	}
	for i, p := range valid() {
		if !same(held[i], wanted(p.K, p.H)) {
			t.Fatalf("Rows(%v) became %v", p, held[i])
		}
		for _, r := range held[i] {
			spoil(r)
		}
	}
}

// R5: what is returned depends on the parameters alone

func TestTheSameAgain(t *testing.T) {
	list := append(valid(), wrong()...)
	var cols []int
	var rows [][][]byte
	for _, p := range list {
		cols, rows = append(cols, pre.Cols(p)), append(rows, pre.Rows(p))
	}
	for i := len(list) - 1; i >= 0; i-- {
		p := list[i]
		pre.Rows(api.Params{K: i%api.MaxK + 1, H: i%api.MaxH + 1, Size: 1})
		pre.Rows(api.Params{K: -i, H: i, Size: i})
		if got := pre.Cols(p); got != cols[i] {
			t.Fatalf("Cols(%v) = %d, and then %d", p, cols[i], got)
		}
		if got := pre.Rows(p); !same(got, rows[i]) {
			t.Fatalf("Rows(%v) = %v, and then %v", p, rows[i], got)
		}
		if got := pre.May(p); got != (cols[i] > 0) || got != (len(rows[i]) > 0) {
			t.Fatalf("May(%v) = %t, but Cols were %d and Rows %v", p, got, cols[i], rows[i])
		}
	}
}

func TestManyAtOnce(t *testing.T) {
	var wait sync.WaitGroup
	for range 8 {
		wait.Go(func() {
			for _, p := range valid() {
				rows := pre.Rows(p)
				if !same(rows, wanted(p.K, p.H)) || pre.Cols(p) != p.K+p.H || !pre.May(p) {
					t.Errorf("Rows(%v) = %v", p, rows)
					return
				}
				for _, r := range rows {
					spoil(r)
				}
			}
		})
	}
	wait.Wait()
}

func Example() {
	fmt.Println(pre.Rows(api.Params{K: 1, H: 1, Size: 8}))
	p := api.Params{K: 3, H: 2, Size: 8}
	fmt.Println(pre.May(p), pre.Cols(p))
	fmt.Println(pre.Rows(p))
	fmt.Println(len(pre.Rows(api.Params{K: 3, H: 2, Size: 0})))
	// Output:
	// [[3 1]]
	// true 5
	// [[3 5 15 1 0] [5 17 85 0 1]]
	// 0
}
