package lt_test

import (
	"bytes"
	"fmt"
	"math"
	"math/bits"
	"math/rand"
	"slices"
	"sort"
	"sync"
	"testing"

	"wellspring/api"
	"wellspring/choose"
	"wellspring/draw"
	"wellspring/lt"
	"wellspring/pre"
	"wellspring/soliton"
)

// generator draws by the formula of chapter 5, without package draw.
type generator uint64

func (g *generator) next() int {
	*g = *g*6364136223846793005 + 1442695040888963407
	return int(*g >> 32)
}

// seedOf is the seed of a symbol's Draw. The product of 16 and 32 bits fits into 64,
// so that what is modulo 2^32 is a remainder here.
func seedOf(seed uint32, id int) uint32 {
	return seed ^ uint32(int64(id)*2654435761%4294967296)
}

// degree is that of the number x among l columns by chapter 6, without package
// soliton: the weights are added up until they are above x. Their sum comes too.
func degree(l, x int) (k, sum int) {
	r := 1
	for r*r < l {
		r++
	}
	m, b := l/r, bits.Len(uint(r))
	for i := 1; i <= l; i++ {
		weight := 1048576 / l
		if i > 1 {
			weight = 1048576 / (i * (i - 1))
		}
		if i < m {
			weight += 1048576 * r / (l * i)
		}
		if i == m {
			weight += 1048576 * r * b / l
		}
		sum += weight
		if k == 0 && sum > x {
			k = i
		}
	}
	return k, sum
}

// chosen is k of the numbers below n by chapter 7, without package choose.
func chosen(g *generator, n, k int) []int {
	var list []int
	for len(list) < n {
		list = append(list, len(list))
	}
	for i := range k {
		at := i + g.next()%(n-i)
		first, second := list[i], list[at]
		list[i], list[at] = second, first
	}
	list = list[:k]
	sort.Ints(list)
	return list
}

// wanted is what Cols returns by the chapters' words, without the packages below.
func wanted(p api.Params, seed uint32, id int) []int {
	n := p.K + p.H
	g := generator(seedOf(seed, id))
	g.next()
	_, sum := degree(n, 0)
	k, _ := degree(n, g.next()%sum)
	return chosen(&g, n, k)
}

// drawn is what Cols returns step by step with the packages below.
func drawn(p api.Params, seed uint32, id int) []int {
	d := draw.New(seedOf(seed, id))
	d.Next()
	k := soliton.Draw(soliton.Table(pre.Cols(p)), d)
	return choose.Some(d, pre.Cols(p), k)
}

// ones is the row of n bytes that are 1 at cols and 0 elsewhere.
func ones(n int, cols []int) []byte {
	row := []byte{}
	for i := range n {
		if slices.Contains(cols, i) {
			row = append(row, 1)
		} else {
			row = append(row, 0)
		}
	}
	return row
}

// seeds are ordinary ones and edges: 0, 1, the greatest, and each bit alone.
func seeds() []uint32 {
	list := []uint32{
		0, 3, 7, 10, 255, 257, 65535, 65537, 123456789, 0xdeadbeef, 2654435761, ^uint32(2654435761),
		math.MaxInt32, math.MaxInt32 + 2, math.MaxUint32 - 1, math.MaxUint32,
	}
	for bit := range 32 {
		list = append(list, 1<<bit)
	}
	return list
}

// ids are ordinary ones and edges: 0, 1, MaxID, and each bit alone.
func ids() []int {
	list := []int{0, 3, 5, 15, 16, 17, 19, 20, 21, 100, 255, 257, 999, 12345, 32767, 40000, api.MaxID - 1, api.MaxID}
	for bit := range 16 {
		list = append(list, 1<<bit)
	}
	return list
}

// codes are valid parameters of each K and H.
func codes() []api.Params {
	var list []api.Params
	for k := 1; k <= api.MaxK; k++ {
		for h := 1; h <= api.MaxH; h++ {
			list = append(list, api.Params{K: k, H: h, Size: (7*k+h)%api.MaxSize + 1})
		}
	}
	return list
}

// few are those of the least, the greatest, and some between.
func few() []api.Params {
	var list []api.Params
	for _, k := range []int{1, 2, 9, api.MaxK} {
		for _, h := range []int{1, 3, api.MaxH} {
			list = append(list, api.Params{K: k, H: h, Size: k + h})
		}
	}
	return list
}

// outside are the numbers that a parameter whose greatest value is most may not
// have. Cut to 8, 16 or 32 bits, or without their sign, many of them could be.
func outside(most int) []int {
	list := []int{
		0, 25, 26, 63, 64, 65, 100, 127, 128, 255, 256, 65535, 65536,
		math.MaxInt32, math.MaxInt32 + 1, math.MaxUint32, 1 << 32, 1 << 40, 1 << 62, math.MaxInt - 1, math.MaxInt,
		math.MinInt32, math.MinInt32 - 1, math.MinInt, -1 << 32, -1 << 62,
	}
	for n := 1; n <= most; n++ {
		list = append(list, -n, most+n, 256+n, 1<<16+n, 1<<31+n, 1<<32+n, n-256, n-1<<16, n-1<<32, n+math.MinInt)
	}
	return list
}

// wrong are parameters one of which is wrong, or two, or all three.
func wrong() []api.Params {
	var list []api.Params
	for _, k := range outside(api.MaxK) {
		list = append(list, api.Params{K: k, H: 1, Size: 1}, api.Params{K: k, H: 4, Size: 24}, api.Params{K: k, H: 2, Size: 9})
	}
	for _, h := range outside(api.MaxH) {
		list = append(list, api.Params{K: 1, H: h, Size: 1}, api.Params{K: 16, H: h, Size: 24}, api.Params{K: 9, H: h, Size: 9})
	}
	for _, size := range outside(api.MaxSize) {
		list = append(list, api.Params{K: 1, H: 1, Size: size}, api.Params{K: 16, H: 4, Size: size}, api.Params{K: 9, H: 2, Size: size})
	}
	ends := []int{math.MinInt, -257, -1, 0, 25, 257, 1<<32 + 1, math.MaxInt}
	for _, a := range ends {
		for _, b := range ends {
			list = append(list, api.Params{K: 3, H: a, Size: b}, api.Params{K: a, H: 3, Size: b}, api.Params{K: a, H: b, Size: 3})
			for _, c := range ends {
				list = append(list, api.Params{K: a, H: b, Size: c})
			}
		}
	}
	return list
}

// noIDs are numbers below 0 and beyond MaxID. Cut to 8, 16 or 32 bits, or without
// their sign, many of them would be IDs.
func noIDs() []int {
	list := []int{
		math.MinInt, math.MinInt + 1, math.MinInt32, math.MinInt32 - 1, -1 << 62, -1 << 32, -1 << 40,
		math.MaxInt, math.MaxInt - 1, math.MaxInt32, math.MaxInt32 + 1, math.MaxUint32, 1 << 40, 1 << 62, 100000, 1 << 24,
	}
	for _, n := range []int{0, 1, 2, 7, 255, 256, 32767, 32768, 65534, 65535} {
		list = append(list, -n-1, 65536+n, -65536-n, 1<<17+n, 1<<31+n, 1<<32+n, n-1<<17, n-1<<31, n-1<<32, n+1+math.MinInt)
	}
	return list
}

// isOf holds what Cols and Row return against the chapter.
func isOf(t *testing.T, p api.Params, seed uint32, id int) {
	t.Helper()
	want := wanted(p, seed, id)
	if got := lt.Cols(p, seed, id); !slices.Equal(got, want) {
		t.Fatalf("Cols(%v, %d, %d) = %v, want %v", p, seed, id, got, want)
	}
	row := ones(p.K+p.H, want)
	if got := lt.Row(p, seed, id); !bytes.Equal(got, row) {
		t.Fatalf("Row(%v, %d, %d) = %v, want %v", p, seed, id, got, row)
	}
}

// noneOf asserts that Cols and Row return none.
func noneOf(t *testing.T, p api.Params, seed uint32, id int) {
	t.Helper()
	if got := lt.Cols(p, seed, id); len(got) != 0 {
		t.Fatalf("Cols(%v, %d, %d) = %v, want none", p, seed, id, got)
	}
	if got := lt.Row(p, seed, id); len(got) != 0 {
		t.Fatalf("Row(%v, %d, %d) = %v, want none", p, seed, id, got)
	}
}

// P9.1: what Cols and Row return

func TestWrittenOut(t *testing.T) {
	for _, c := range []struct {
		k, h int
		seed uint32
		id   int
		want []int
	}{
		{1, 1, 0, 0, []int{0, 1}},
		{1, 1, 0, 1, []int{0, 1}},
		{1, 1, 1, 0, []int{1}},
		{1, 1, 4294967295, 65535, []int{0, 1}},
		{1, 4, 0, 0, []int{4}},
		{1, 4, 7, 3, []int{0}},
		{2, 1, 3, 4, []int{0}},
		{3, 2, 2147483647, 12345, []int{4}},
		{5, 2, 77, 65535, []int{3}},
		{8, 2, 5, 12, []int{7, 8}},
		{10, 3, 0, 10, []int{0, 3, 5, 6}},
		{10, 3, 123456789, 999, []int{5, 11}},
		{10, 3, 3735928559, 40000, []int{0, 3, 12}},
		{16, 1, 0, 0, []int{0, 10}},
		{16, 1, 1, 1, []int{3, 7, 12}},
		{16, 1, 4294967295, 65535, []int{0, 1, 7}},
		{16, 4, 0, 0, []int{2, 12, 14, 16}},
		{16, 4, 0, 1, []int{5, 11, 14, 19}},
		{16, 4, 0, 2, []int{1, 4, 5, 9}},
		{16, 4, 0, 3, []int{1, 3, 16, 17}},
		{16, 4, 0, 65535, []int{8, 9, 14, 19}},
		{16, 4, 1, 0, []int{0, 2, 13, 19}},
		{16, 4, 1, 1, []int{2, 15}},
		{16, 4, 2654435761, 1, []int{2, 12, 14, 16}},
		{16, 4, 65536, 256, []int{1, 12, 19}},
		{16, 4, 2147483648, 32768, []int{3, 4, 8, 13, 14, 19}},
		{16, 4, 4294967295, 0, []int{8, 15, 17}},
		{16, 4, 4294967295, 1, []int{1, 8}},
		{16, 4, 4294967295, 65534, []int{0, 6, 9, 10}},
		{16, 4, 4294967295, 65535, []int{11, 13, 14, 15}},
	} {
		p := api.Params{K: c.k, H: c.h, Size: 5}
		if got := lt.Cols(p, c.seed, c.id); !slices.Equal(got, c.want) {
			t.Errorf("Cols(%v, %d, %d) = %v, want %v", p, c.seed, c.id, got, c.want)
		}
		row := ones(c.k+c.h, c.want)
		if got := lt.Row(p, c.seed, c.id); !bytes.Equal(got, row) {
			t.Errorf("Row(%v, %d, %d) = %v, want %v", p, c.seed, c.id, got, row)
		}
	}
}

func TestByTheChapters(t *testing.T) {
	for _, p := range codes() {
		for _, seed := range seeds() {
			for _, id := range ids() {
				isOf(t, p, seed, id)
			}
		}
	}
}

func TestByTheChaptersOfEachID(t *testing.T) {
	for _, p := range []api.Params{{K: 1, H: 1, Size: 1}, {K: 9, H: 2, Size: 11}, {K: api.MaxK, H: api.MaxH, Size: api.MaxSize}} {
		for id := 0; id <= api.MaxID; id++ {
			isOf(t, p, uint32(id)*3, id)
		}
	}
}

func TestByTheChaptersAtRandom(t *testing.T) {
	dice := rand.New(rand.NewSource(1))
	for range 50000 {
		p := api.Params{K: 1 + dice.Intn(api.MaxK), H: 1 + dice.Intn(api.MaxH), Size: 1 + dice.Intn(api.MaxSize)}
		isOf(t, p, dice.Uint32(), dice.Intn(api.MaxID+1))
	}
}

func TestByThePackagesBelow(t *testing.T) {
	for _, p := range codes() {
		for _, seed := range seeds() {
			for _, id := range ids() {
				want := drawn(p, seed, id)
				if got := lt.Cols(p, seed, id); !slices.Equal(got, want) {
					t.Fatalf("Cols(%v, %d, %d) = %v, want %v", p, seed, id, got, want)
				}
			}
		}
	}
}

// All that an ID does is in the seed of the Draw: 0 leaves it, and each other one
// is as 0 is of the seed that it makes.
func TestTheSeedIsAnExclusiveOr(t *testing.T) {
	for _, p := range few() {
		for _, seed := range seeds() {
			for _, id := range ids() {
				got, want := lt.Cols(p, seed, id), lt.Cols(p, seedOf(seed, id), 0)
				if !slices.Equal(got, want) {
					t.Fatalf("Cols(%v, %d, %d) = %v, but Cols(%v, %d, 0) = %v", p, seed, id, got, p, seedOf(seed, id), want)
				}
			}
		}
	}
}

// The seed that makes the Draw's 0, of each ID.
func TestTheSeedModulo2To32(t *testing.T) {
	for _, c := range []struct {
		id   int
		seed uint32
	}{
		{0, 0}, {1, 2654435761}, {2, 1013904226}, {3, 3668339987}, {255, 2571253583}, {256, 930722048},
		{32768, 3168305152}, {65534, 1027738782}, {65535, 3682174543},
	} {
		for _, p := range few() {
			got, want := lt.Cols(p, c.seed, c.id), lt.Cols(p, 0, 0)
			if !slices.Equal(got, want) {
				t.Errorf("Cols(%v, %d, %d) = %v, but of the Draw of 0 it is %v", p, c.seed, c.id, got, want)
			}
		}
	}
}

func TestColsAreAscendingAndBelowCols(t *testing.T) {
	for _, p := range codes() {
		for _, seed := range seeds() {
			for _, id := range ids() {
				cols := lt.Cols(p, seed, id)
				if len(cols) < 1 || len(cols) > p.K+p.H {
					t.Fatalf("Cols(%v, %d, %d) has %d columns", p, seed, id, len(cols))
				}
				for i, col := range cols {
					if col < 0 || col >= p.K+p.H || i > 0 && col <= cols[i-1] {
						t.Fatalf("Cols(%v, %d, %d) = %v", p, seed, id, cols)
					}
				}
			}
		}
	}
}

func TestRowIsOneAtTheColumns(t *testing.T) {
	for _, p := range codes() {
		for _, seed := range seeds() {
			for _, id := range ids() {
				cols, row := lt.Cols(p, seed, id), lt.Row(p, seed, id)
				if len(row) != pre.Cols(p) {
					t.Fatalf("Row(%v, %d, %d) has %d bytes, want %d", p, seed, id, len(row), pre.Cols(p))
				}
				if bytes.Count(row, []byte{1}) != len(cols) || bytes.Count(row, []byte{0}) != len(row)-len(cols) {
					t.Fatalf("Row(%v, %d, %d) = %v, but the columns are %v", p, seed, id, row, cols)
				}
				for _, col := range cols {
					if row[col] != 1 {
						t.Fatalf("Row(%v, %d, %d) = %v, but the columns are %v", p, seed, id, row, cols)
					}
				}
			}
		}
	}
}

// Each degree comes as often as its weight says, or nearly so, and each column as
// often as any other.
func TestDegreesAndColumnsComeByTheirWeights(t *testing.T) {
	p := api.Params{K: 16, H: 4, Size: 8}
	_, sum := degree(20, 0)
	degrees, columns, all := make([]int, 21), make([]int, 20), 0
	for id := 0; id <= api.MaxID; id++ {
		cols := lt.Cols(p, 99, id)
		degrees[len(cols)]++
		all += len(cols)
		for _, col := range cols {
			columns[col]++
		}
	}
	table := append([]int{0}, soliton.Table(20)...)
	for k := 1; k <= 20; k++ {
		want := float64(table[k]-table[k-1]) / float64(sum) * (api.MaxID + 1)
		if got := float64(degrees[k]); math.Abs(got-want) > 5*math.Sqrt(want)+1 {
			t.Errorf("degree %d came %v times, want about %v", k, got, want)
		}
	}
	for col, came := range columns {
		if came < all/20*95/100 || came > all/20*105/100 {
			t.Errorf("column %d came %d times of %d", col, came, all)
		}
	}
}

func TestSizePlaysNoPart(t *testing.T) {
	for _, p := range codes() {
		for _, seed := range []uint32{0, 1, 77, math.MaxUint32} {
			for _, id := range []int{0, 1, 300, api.MaxID} {
				want := wanted(p, seed, id)
				for size := 1; size <= api.MaxSize; size++ {
					p.Size = size
					if got := lt.Cols(p, seed, id); !slices.Equal(got, want) {
						t.Fatalf("Cols(%v, %d, %d) = %v, want %v", p, seed, id, got, want)
					}
					if got := lt.Row(p, seed, id); !bytes.Equal(got, ones(p.K+p.H, want)) {
						t.Fatalf("Row(%v, %d, %d) = %v, want 1 at %v", p, seed, id, got, want)
					}
				}
			}
		}
	}
}

// P9.1: none

func TestOfWrongParameters(t *testing.T) {
	for _, p := range wrong() {
		for _, seed := range []uint32{0, 1, 77, math.MaxUint32} {
			for _, id := range []int{0, 1, 300, api.MaxID, -1, api.MaxID + 1} {
				noneOf(t, p, seed, id)
			}
		}
	}
}

func TestOfAWrongID(t *testing.T) {
	for _, p := range codes() {
		for _, seed := range []uint32{0, 1, 77, 2654435761, math.MaxUint32} {
			for _, id := range noIDs() {
				noneOf(t, p, seed, id)
			}
		}
	}
}

func TestOfBothWrong(t *testing.T) {
	for _, p := range wrong() {
		for _, id := range noIDs() {
			noneOf(t, p, 5, id)
		}
	}
}

func TestAtTheEndsOfTheIDs(t *testing.T) {
	for _, p := range codes() {
		for _, seed := range seeds() {
			noneOf(t, p, seed, -1)
			isOf(t, p, seed, 0)
			isOf(t, p, seed, 65535)
			noneOf(t, p, seed, 65536)
		}
	}
}

// R3: what is returned is new memory each time

// spoil writes over a list, and over what lies behind it.
func spoil[T int | byte](list []T, value T) {
	whole := list[:cap(list)]
	for i := range whole {
		whole[i] = value
	}
}

func TestColsAreNewMemory(t *testing.T) {
	for _, p := range few() {
		for _, seed := range seeds() {
			for _, id := range ids() {
				want := wanted(p, seed, id)
				first, second := lt.Cols(p, seed, id), lt.Cols(p, seed, id)
				spoil(first, -77)
				if !slices.Equal(second, want) {
					t.Fatalf("what was written into one Cols(%v, %d, %d) is in another: %v", p, seed, id, second)
				}
				if third := lt.Cols(p, seed, id); !slices.Equal(third, want) {
					t.Fatalf("what was written into one Cols(%v, %d, %d) is in a later one: %v", p, seed, id, third)
				}
			}
		}
	}
}

func TestRowIsNewMemory(t *testing.T) {
	for _, p := range few() {
		for _, seed := range seeds() {
			for _, id := range ids() {
				want := ones(p.K+p.H, wanted(p, seed, id))
				first, second := lt.Row(p, seed, id), lt.Row(p, seed, id)
				spoil(first, 0xee)
				if !bytes.Equal(second, want) {
					t.Fatalf("what was written into one Row(%v, %d, %d) is in another: %v", p, seed, id, second)
				}
				if third := lt.Row(p, seed, id); !bytes.Equal(third, want) {
					t.Fatalf("what was written into one Row(%v, %d, %d) is in a later one: %v", p, seed, id, third)
				}
			}
		}
	}
}

// All of them held at once, and each appended to.
func TestAllHeldAtOnce(t *testing.T) {
	type held struct {
		p    api.Params
		seed uint32
		id   int
		cols []int
		row  []byte
	}
	var all []held
	for _, p := range codes() {
		for _, seed := range []uint32{0, 9, math.MaxUint32} {
			for _, id := range []int{0, 1, 4711, api.MaxID} {
				all = append(all, held{p, seed, id, lt.Cols(p, seed, id), lt.Row(p, seed, id)})
			}
		}
	}
	for _, h := range all {
		want := wanted(h.p, h.seed, h.id)
		if !slices.Equal(h.cols, want) || !bytes.Equal(h.row, ones(h.p.K+h.p.H, want)) {
			t.Fatalf("Cols(%v, %d, %d) became %v, Row %v", h.p, h.seed, h.id, h.cols, h.row)
		}
		spoil(append(h.cols, 1), -77)
		spoil(append(h.row, 1), 0xee)
		spoil(h.cols, -77)
		spoil(h.row, 0xee)
	}
}

// R5: what is returned depends on the parameters, the seed and the ID alone

func TestTheSameAgain(t *testing.T) {
	var cols [][]int
	var rows [][]byte
	for _, p := range few() {
		for _, seed := range seeds() {
			for _, id := range append(ids(), noIDs()...) {
				cols, rows = append(cols, lt.Cols(p, seed, id)), append(rows, lt.Row(p, seed, id))
			}
		}
	}
	i := 0
	for _, p := range few() {
		for _, seed := range seeds() {
			for _, id := range append(ids(), noIDs()...) {
				lt.Cols(api.Params{K: i%api.MaxK + 1, H: i%api.MaxH + 1, Size: 1}, uint32(i), i)
				lt.Row(api.Params{K: -i, H: i, Size: i}, uint32(i), -i)
				if row := lt.Row(p, seed, id); !bytes.Equal(row, rows[i]) {
					t.Fatalf("Row(%v, %d, %d) = %v, and then %v", p, seed, id, rows[i], row)
				}
				if again := lt.Cols(p, seed, id); !slices.Equal(again, cols[i]) {
					t.Fatalf("Cols(%v, %d, %d) = %v, and then %v", p, seed, id, cols[i], again)
				}
				i++
			}
		}
	}
}

func TestManyAtOnce(t *testing.T) {
	var wait sync.WaitGroup
	for range 8 {
		wait.Go(func() {
			for _, p := range codes() {
				for _, id := range ids() {
					want := wanted(p, 31, id)
					cols, row := lt.Cols(p, 31, id), lt.Row(p, 31, id)
					if !slices.Equal(cols, want) || !bytes.Equal(row, ones(p.K+p.H, want)) {
						t.Errorf("Cols(%v, 31, %d) = %v, want %v; Row %v", p, id, cols, want, row)
						return
					}
					spoil(cols, -77)
					spoil(row, 0xee)
				}
			}
		})
	}
	wait.Wait()
}

func Example() {
	p := api.Params{K: 8, H: 2, Size: 24}
	fmt.Println(lt.Cols(p, 5, 12))
	fmt.Println(lt.Row(p, 5, 12))
	fmt.Println(len(lt.Row(p, 5, api.MaxID+1)))
	// Output:
	// [7 8]
	// [0 0 0 0 0 0 0 1 1 0]
	// 0
}
