package encode_test

import (
	"bytes"
	"fmt"
	"math"
	"math/rand"
	"slices"
	"sync"
	"testing"

	"wellspring/api"
	"wellspring/encode"
	"wellspring/lt"
	"wellspring/mat"
	"wellspring/pre"
	"wellspring/system"
)

// times is a product in the field by the definition of chapter 1, bit by bit,
// without package gf.
func times(a, b byte) byte {
	product := byte(0)
	for ; b > 0; b >>= 1 {
		if b&1 == 1 {
			product ^= a
		}
		if a >= 128 {
			a = a<<1 ^ 0x1b
		} else {
			a <<= 1
		}
	}
	return product
}

// weighted is the sum of the symbols, each multiplied by the element of weights
// with the same index, without package mat.
func weighted(weights []byte, symbols [][]byte, size int) []byte {
	sum := make([]byte, size)
	for i, s := range symbols {
		for j := range sum {
			sum[j] ^= times(weights[i], s[j])
		}
	}
	return sum
}

// summed is the sum of the symbols at the columns.
func summed(cols []int, symbols [][]byte, size int) []byte {
	sum := make([]byte, size)
	for _, c := range cols {
		for j := range sum {
			sum[j] ^= symbols[c][j]
		}
	}
	return sum
}

func same(a, b [][]byte) bool {
	return slices.EqualFunc(a, b, bytes.Equal)
}

// upTo are the IDs from 0 on below n.
func upTo(n int) []int {
	ids := []int{}
	for len(ids) < n {
		ids = append(ids, len(ids))
	}
	return ids
}

// codes are valid parameters of each K and H, and, among them, of each Size.
func codes() []api.Params {
	var list []api.Params
	for k := 1; k <= api.MaxK; k++ {
		for h := 1; h <= api.MaxH; h++ {
			list = append(list, api.Params{K: k, H: h, Size: (7*k+h)%api.MaxSize + 1})
		}
	}
	return append(list,
		api.Params{K: 1, H: 1, Size: 1}, api.Params{K: 1, H: 1, Size: 24}, api.Params{K: 1, H: 4, Size: 24},
		api.Params{K: 16, H: 1, Size: 1}, api.Params{K: 16, H: 4, Size: 1}, api.Params{K: 16, H: 4, Size: 24})
}

// few are those of the least, the greatest, and some between.
func few() []api.Params {
	var list []api.Params
	for _, k := range []int{1, 2, 9, api.MaxK} {
		for _, h := range []int{1, 3, api.MaxH} {
			list = append(list, api.Params{K: k, H: h, Size: k + h})
		}
	}
	return list
}

// seeds are ordinary ones and edges, and so many that each code has right ones
// among them.
func seeds() []uint32 {
	list := []uint32{256, 65536, 123456789, 2654435761, math.MaxInt32, 1 << 31, math.MaxUint32 - 1, math.MaxUint32}
	for seed := range uint32(40) {
		list = append(list, seed)
	}
	return list
}

// sorted are the seeds that are right for p, at most n of them, and as many that
// are not (of K = 1 each seed is right).
func sorted(p api.Params, n int) (right, bad []uint32) {
	for _, seed := range seeds() {
		if system.Right(p, seed) {
			right = append(right, seed)
		} else {
			bad = append(bad, seed)
		}
	}
	return right[:min(n, len(right))], bad[:min(n, len(bad))]
}

// blocks are data for p: all zeros, all ones, and any.
func blocks(p api.Params, n int) [][]byte {
	dice := rand.New(rand.NewSource(int64(100*p.K + 10*p.H + p.Size)))
	list := [][]byte{make([]byte, p.K*p.Size), bytes.Repeat([]byte{255}, p.K*p.Size)}
	for range n {
		data := make([]byte, p.K*p.Size)
		dice.Read(data)
		list = append(list, data)
	}
	return list
}

// block is the Block of right parameters, seeds and data.
func block(t *testing.T, p api.Params, seed uint32, data []byte) *encode.Block {
	t.Helper()
	b, e := encode.New(p, seed, data)
	if e != api.OK || b == nil {
		t.Fatalf("New(%v, %d, %v) = %v, %d", p, seed, data, b, e)
	}
	return b
}

// cases calls with the Block of each code, right seeds, and data.
func cases(t *testing.T, call func(p api.Params, seed uint32, data []byte, b *encode.Block)) {
	t.Helper()
	for _, p := range codes() {
		right, _ := sorted(p, 3)
		if len(right) == 0 {
			t.Fatalf("no right seed of %v", p)
		}
		for _, seed := range right {
			for _, data := range blocks(p, 2) {
				call(p, seed, data, block(t, p, seed, data))
			}
		}
	}
}

// ids are IDs from 0 to MaxID, the first ones and the last ones of them, and any.
func ids() []int {
	list := append(upTo(40), 255, 256, 257, 1000, 4095, 32767, 32768, 65533, 65534, 65535)
	dice := rand.New(rand.NewSource(4))
	for range 30 {
		list = append(list, dice.Intn(api.MaxID+1))
	}
	return list
}

// noIDs are numbers below 0 and beyond MaxID. Cut to 8, 16 or 32 bits, or without
// their sign, many of them would be IDs.
func noIDs() []int {
	list := []int{
		-1, api.MaxID + 1, math.MinInt, math.MinInt + 1, math.MinInt32, math.MinInt32 - 1, -1 << 62, -1 << 32,
		math.MaxInt, math.MaxInt - 1, math.MaxInt32, math.MaxInt32 + 1, math.MaxUint32, 1 << 40, 1 << 62, 100000,
	}
	for _, n := range []int{0, 1, 2, 3, 4, 5, 7, 8, 15, 255, 65534, 65535} {
		list = append(list, -n-1, 65536+n, 1<<17+n, 1<<31+n, 1<<32+n, n-1<<17, n-1<<32, n+1+math.MinInt)
	}
	return list
}

// outside are the numbers that a parameter whose greatest value is most may not
// have. Cut to 8, 16 or 32 bits, or without their sign, many of them could be.
func outside(most int) []int {
	list := []int{
		0, 25, 60, 63, 64, 65, 127, 255, 256, 65536, math.MaxInt32, math.MaxInt32 + 1, 1 << 32, 1 << 62,
		math.MaxInt - 1, math.MaxInt, math.MinInt32, math.MinInt32 - 1, math.MinInt, -1 << 32, -1 << 62,
	}
	for _, n := range []int{1, 2, most} {
		list = append(list, -n, most+n, 256+n, 1<<16+n, 1<<32+n, n-256, n-1<<16, n-1<<32, n+math.MinInt)
	}
	return list
}

// wrong are parameters one of which is wrong, or all three. K Size of some is the
// length that data may have, or is so once it is cut to 64 bits.
func wrong() []api.Params {
	list := []api.Params{
		{}, {K: -1, H: -1, Size: -1}, {K: -4, H: 1, Size: -6}, {K: -4, H: 1, Size: 6}, {K: 4, H: 1, Size: -6},
		{K: 17, H: 5, Size: 25}, {K: 1 << 32, H: 1, Size: 1 << 32}, {K: math.MaxInt, H: math.MaxInt, Size: math.MaxInt},
		{K: math.MinInt, H: 1, Size: 2}, {K: 2, H: 1, Size: math.MinInt}, {K: 24, H: 2, Size: 4}, {K: 32, H: 2, Size: 12},
		{K: 2, H: 2, Size: 48}, {K: 16, H: 2, Size: 25}, {K: 17, H: 2, Size: 24},
	}
	for _, k := range outside(api.MaxK) {
		list = append(list, api.Params{K: k, H: 1, Size: 1}, api.Params{K: k, H: 4, Size: 24})
	}
	for _, h := range outside(api.MaxH) {
		list = append(list, api.Params{K: 1, H: h, Size: 1}, api.Params{K: 16, H: h, Size: 24})
	}
	for _, size := range outside(api.MaxSize) {
		list = append(list, api.Params{K: 1, H: 1, Size: size}, api.Params{K: 16, H: 4, Size: size})
	}
	return list
}

// P11.1: New

// answers holds what New returns against the one error that is wanted.
func answers(t *testing.T, p api.Params, seed uint32, data []byte, want api.Errno) {
	t.Helper()
	if b, e := encode.New(p, seed, data); e != want || (b != nil) != (want == api.OK) {
		t.Fatalf("New(%v, %d, %d bytes) = %v, %d, want error %d", p, seed, len(data), b, e, want)
	}
}

func TestNewOfWrongParameters(t *testing.T) {
	for _, p := range wrong() {
		lengths := []int{0, 1, 23, 24, 25, 96, 383, 384, 385, 408}
		if n := p.K * p.Size; n >= 0 && n < 1<<17 {
			lengths = append(lengths, n, n+1)
		}
		for _, n := range lengths {
			for _, seed := range []uint32{0, 1, 2, 3, 9, math.MaxUint32} {
				answers(t, p, seed, make([]byte, n), api.ErrArg)
			}
		}
		answers(t, p, 0, nil, api.ErrArg)
	}
}

// wrongLengths are what data may not have, for p.
func wrongLengths(p api.Params) []int {
	n := p.K * p.Size
	list := []int{
		0, n - 1, n + 1, n - p.Size, n + p.Size, 2 * n, n + p.H, n + p.H*p.Size, p.K, p.Size, p.H, 1, 1000,
		n + 256, n + 65536,
	}
	return slices.DeleteFunc(list, func(l int) bool { return l == n })
}

// With each seed, a right one or not: ErrArg is named before ErrSeed.
func TestNewOfDataTooShortOrTooLong(t *testing.T) {
	for _, p := range codes() {
		right, bad := sorted(p, 2)
		for _, seed := range slices.Concat(right, bad) {
			for _, n := range wrongLengths(p) {
				answers(t, p, seed, bytes.Repeat([]byte{7}, n), api.ErrArg)
			}
			answers(t, p, seed, nil, api.ErrArg)
		}
	}
}

// What data has beyond its length counts for nothing.
func TestNewGoesByTheLength(t *testing.T) {
	p := api.Params{K: 4, H: 2, Size: 6}
	right, _ := sorted(p, 1)
	whole := make([]byte, 48)
	answers(t, p, right[0], whole[:23], api.ErrArg)
	answers(t, p, right[0], whole[:24], api.OK)
	answers(t, p, right[0], whole[:25], api.ErrArg)
	answers(t, p, right[0], whole[24:], api.OK)
}

func TestNewOfEachSeed(t *testing.T) {
	seen := map[bool]int{}
	for _, p := range codes() {
		for _, seed := range seeds() {
			right := system.Right(p, seed)
			for _, data := range blocks(p, 1) {
				if right {
					answers(t, p, seed, data, api.OK)
				} else {
					answers(t, p, seed, data, api.ErrSeed)
				}
			}
			seen[right]++
		}
	}
	if seen[true] < 500 || seen[false] < 500 {
		t.Error("hardly any seeds of both kinds:", seen)
	}
}

// The right ones of the seeds 0 to 9, as chapter 10's tests have them.
func TestNewOfSeedsWrittenOut(t *testing.T) {
	for _, c := range []struct {
		k, h int
		want []uint32
	}{
		{1, 1, []uint32{0, 1, 2, 3, 4, 5, 6, 7, 8, 9}},
		{8, 2, []uint32{2, 3, 9}},
		{16, 1, []uint32{1, 4, 9}},
	} {
		p := api.Params{K: c.k, H: c.h, Size: 6}
		for seed := range uint32(10) {
			want := api.ErrSeed
			if slices.Contains(c.want, seed) {
				want = api.OK
			}
			answers(t, p, seed, make([]byte, 6*c.k), want)
		}
	}
}

func TestNewOfEachSize(t *testing.T) {
	for size := 1; size <= api.MaxSize; size++ {
		p := api.Params{K: 5, H: 3, Size: size}
		right, bad := sorted(p, 1)
		answers(t, p, right[0], make([]byte, 5*size), api.OK)
		answers(t, p, bad[0], make([]byte, 5*size), api.ErrSeed)
		answers(t, p, right[0], make([]byte, 5*size-1), api.ErrArg)
		answers(t, p, bad[0], make([]byte, 5*size+1), api.ErrArg)
	}
}

// P11.1: Mid

func TestMidWrittenOut(t *testing.T) {
	for _, c := range []struct {
		k, h, size int
		seed       uint32
		data       []byte
		want       [][]byte
	}{
		// The rows are 3 1 and 1 1: twice the first symbol is the data.
		{1, 1, 1, 0, []byte{2}, [][]byte{{1}, {3}}},
		{1, 1, 3, 0, []byte{4, 0, 27}, [][]byte{{2, 0, 128}, {6, 0, 155}}},
		// The rows are 3 1 and 0 1: three times the first symbol is the data.
		{1, 1, 3, 1, []byte{5, 0, 1}, [][]byte{{3, 0, 246}, {5, 0, 1}}},
		// The rows are 3 5 1, and 1 0 0 and 0 1 0.
		{2, 1, 2, 7, []byte{1, 2, 4, 8}, [][]byte{{1, 2}, {4, 8}, {23, 46}}},
		{2, 1, 1, 7, []byte{0, 255}, [][]byte{{0}, {255}, {46}}},
	} {
		p := api.Params{K: c.k, H: c.h, Size: c.size}
		if got := block(t, p, c.seed, c.data).Mid(); !same(got, c.want) {
			t.Errorf("Mid of New(%v, %d, %v) = %v, want %v", p, c.seed, c.data, got, c.want)
		}
	}
}

func TestMidByTheChapter(t *testing.T) {
	cases(t, func(p api.Params, seed uint32, data []byte, b *encode.Block) {
		mid := b.Mid()
		if len(mid) != pre.Cols(p) {
			t.Fatalf("Mid of New(%v, %d, ..) has %d symbols, want %d", p, seed, len(mid), pre.Cols(p))
		}
		for i, m := range mid {
			if len(m) != p.Size {
				t.Fatalf("Mid of New(%v, %d, ..) has %d bytes in symbol %d", p, seed, len(m), i)
			}
		}
		got, ok := mat.Mul(nil, pre.Rows(p), mid)
		if !ok || len(got) != p.H || slices.ContainsFunc(got, func(r []byte) bool { return !bytes.Equal(r, make([]byte, p.Size)) }) {
			t.Fatalf("Mid of New(%v, %d, %v) is not zero by the precode: %v", p, seed, data, got)
		}
		for i := range p.K {
			got, ok := mat.Mul(nil, [][]byte{lt.Row(p, seed, i)}, mid)
			if want := data[i*p.Size : (i+1)*p.Size]; !ok || len(got) != 1 || !bytes.Equal(got[0], want) {
				t.Fatalf("Mid of New(%v, %d, %v) by the row of the ID %d is %v, want %v", p, seed, data, i, got, want)
			}
		}
	})
}

func TestMidWithoutPackageMat(t *testing.T) {
	cases(t, func(p api.Params, seed uint32, data []byte, b *encode.Block) {
		mid := b.Mid()
		for h, r := range pre.Rows(p) {
			if got := weighted(r, mid, p.Size); !bytes.Equal(got, make([]byte, p.Size)) {
				t.Fatalf("Mid of New(%v, %d, %v) by the precode row %d is %v", p, seed, data, h, got)
			}
		}
		for i := range p.K {
			got, want := weighted(lt.Row(p, seed, i), mid, p.Size), data[i*p.Size:(i+1)*p.Size]
			if !bytes.Equal(got, want) {
				t.Fatalf("Mid of New(%v, %d, %v) by the row of the ID %d is %v, want %v", p, seed, data, i, got, want)
			}
		}
	})
}

// Nothing but zeros is there where there is nothing but zeros in the data.
func TestMidOfZeros(t *testing.T) {
	for _, p := range codes() {
		right, _ := sorted(p, 1)
		for i, m := range block(t, p, right[0], make([]byte, p.K*p.Size)).Mid() {
			if !bytes.Equal(m, make([]byte, p.Size)) {
				t.Fatalf("symbol %d of Mid of zeros is %v, of %v", i, m, p)
			}
		}
	}
}

// Each byte of the data is encoded apart from those beside it.
func TestColumnsAreApart(t *testing.T) {
	for _, p := range few() {
		right, _ := sorted(p, 1)
		one := api.Params{K: p.K, H: p.H, Size: 1}
		for _, data := range blocks(p, 1) {
			b := block(t, p, right[0], data)
			for j := range p.Size {
				var column []byte
				for i := range p.K {
					column = append(column, data[i*p.Size+j])
				}
				c := block(t, one, right[0], column)
				for i, m := range b.Mid() {
					if got := c.Mid()[i]; !bytes.Equal(got, m[j:j+1]) {
						t.Fatalf("of %v the byte %d of symbol %d is %d, alone it is %d", p, j, i, m[j], got)
					}
				}
			}
		}
	}
}

// P11.1: Symbol

func TestSymbolWrittenOut(t *testing.T) {
	// The row of 2 is that of 1, and 3 is the third intermediate symbol.
	b := block(t, api.Params{K: 2, H: 1, Size: 2}, 7, []byte{1, 2, 4, 8})
	for id, want := range [][]byte{{1, 2}, {4, 8}, {4, 8}, {23, 46}} {
		if got := b.Symbol(id); !bytes.Equal(got, want) {
			t.Errorf("Symbol(%d) = %v, want %v", id, got, want)
		}
	}
}

func TestSymbolByTheChapter(t *testing.T) {
	cases(t, func(p api.Params, seed uint32, data []byte, b *encode.Block) {
		mid := b.Mid()
		for _, id := range ids() {
			want := summed(lt.Cols(p, seed, id), mid, p.Size)
			if got := b.Symbol(id); !bytes.Equal(got, want) {
				t.Fatalf("Symbol(%d) of New(%v, %d, %v) = %v, want %v", id, p, seed, data, got, want)
			}
		}
	})
}

func TestSymbolOfEachID(t *testing.T) {
	p := api.Params{K: 11, H: 2, Size: 5}
	right, _ := sorted(p, 1)
	b := block(t, p, right[0], blocks(p, 1)[2])
	mid := b.Mid()
	for id := range api.MaxID + 1 {
		want := summed(lt.Cols(p, right[0], id), mid, p.Size)
		if got := b.Symbol(id); !bytes.Equal(got, want) {
			t.Fatalf("Symbol(%d) = %v, want %v", id, got, want)
		}
	}
}

func TestSymbolOfWhatIsNoID(t *testing.T) {
	for _, p := range few() {
		right, _ := sorted(p, 2)
		for _, seed := range right {
			b := block(t, p, seed, bytes.Repeat([]byte{9}, p.K*p.Size))
			for _, id := range noIDs() {
				if got := b.Symbol(id); len(got) != 0 {
					t.Fatalf("Symbol(%d) of New(%v, %d, ..) = %v, want none", id, p, seed, got)
				}
			}
			for _, id := range []int{0, api.MaxID} { // one step before there is none
				if got := b.Symbol(id); len(got) != p.Size {
					t.Fatalf("Symbol(%d) of New(%v, %d, ..) = %v", id, p, seed, got)
				}
			}
		}
	}
}

// P11.1: a nil Block

func TestOfANilBlock(t *testing.T) {
	var b *encode.Block
	if got := b.Mid(); len(got) != 0 {
		t.Error("Mid of a nil Block:", got)
	}
	for _, id := range append(ids(), noIDs()...) {
		if got := b.Symbol(id); len(got) != 0 {
			t.Errorf("Symbol(%d) of a nil Block: %v", id, got)
		}
	}
}

// A Block that New did not make is not spoken of, yet nothing panics (R1).
func TestOfABlockThatNewDidNotMake(t *testing.T) {
	b := new(encode.Block)
	if got := b.Mid(); len(got) != 0 {
		t.Error("Mid of an empty Block:", got)
	}
	for _, id := range append(ids(), noIDs()...) {
		if got := b.Symbol(id); len(got) != 0 {
			t.Errorf("Symbol(%d) of an empty Block: %v", id, got)
		}
	}
}

// P11.2

func TestTheFirstSymbolsAreTheData(t *testing.T) {
	for _, p := range codes() {
		right, _ := sorted(p, 6)
		for _, seed := range right {
			for _, data := range blocks(p, 2) {
				b := block(t, p, seed, data)
				for i := range p.K {
					if got, want := b.Symbol(i), data[i*p.Size:(i+1)*p.Size]; !bytes.Equal(got, want) {
						t.Fatalf("Symbol(%d) of New(%v, %d, %v) = %v, want %v", i, p, seed, data, got, want)
					}
				}
			}
		}
	}
}

// R3

// asked is all that a Block answers: Mid, and then a symbol of each of some IDs.
func asked(b *encode.Block) [][]byte {
	list := b.Mid()
	for _, id := range append(ids(), -1, api.MaxID+1) {
		list = append(list, b.Symbol(id))
	}
	return list
}

func spoil(r []byte) {
	r = r[:cap(r)]
	for i := range r {
		r[i] ^= 0x5a
	}
}

// overwrite changes every element of every row, and every row of the list, with
// what they could be lengthened by.
func overwrite(list [][]byte) {
	list = list[:cap(list)]
	for i, r := range list {
		spoil(r)
		list[i] = []byte{77}
	}
}

// The data that is passed stands in the midst of a longer list, so that a write
// beside it, into its spare capacity too, is found.
func TestDataIsNotModified(t *testing.T) {
	passed := func(p api.Params, seed uint32, data []byte) {
		whole := slices.Concat([]byte{7, 77, 200}, data, bytes.Repeat([]byte{9, 99, 3}, 200))
		before := bytes.Clone(whole)
		b, _ := encode.New(p, seed, whole[3:3+len(data)])
		overwrite(asked(b))
		overwrite(b.Mid())
		if !bytes.Equal(whole, before) {
			t.Fatalf("of New(%v, %d, ..) the data in %v became %v", p, seed, before, whole)
		}
	}
	for _, p := range codes() {
		right, bad := sorted(p, 2)
		for _, seed := range slices.Concat(right, bad) {
			for _, data := range blocks(p, 1) {
				passed(p, seed, data)
				passed(p, seed, data[1:])
				passed(p, seed, append(data, 5))
			}
		}
	}
	for _, p := range wrong() {
		passed(p, 3, []byte{1, 2, 3, 4, 5, 6})
	}
}

func TestDataIsNotKept(t *testing.T) {
	cases(t, func(p api.Params, seed uint32, data []byte, b *encode.Block) {
		want := asked(b)
		passed := append(bytes.Clone(data), make([]byte, 300)...)[:len(data)]
		early := block(t, p, seed, passed)
		asked(early)
		late := block(t, p, seed, passed)
		spoil(passed)
		if got := asked(early); !same(got, want) {
			t.Fatalf("what was written into the data of New(%v, %d, %v) is in the Block: %v, want %v", p, seed, data, got, want)
		}
		if got := asked(late); !same(got, want) {
			t.Fatalf("what was written into the data of New(%v, %d, %v) before the first question is in the Block: %v", p, seed, data, got)
		}
	})
}

func TestMidIsNewMemory(t *testing.T) {
	cases(t, func(p api.Params, seed uint32, data []byte, b *encode.Block) {
		want := asked(block(t, p, seed, data))
		first, second := b.Mid(), b.Mid()
		overwrite(first)
		if !same(second, want[:len(second)]) {
			t.Fatalf("what was written into one Mid of New(%v, %d, %v) is in another: %v", p, seed, data, second)
		}
		if got := asked(b); !same(got, want) {
			t.Fatalf("what was written into Mid of New(%v, %d, %v) is in the Block: %v, want %v", p, seed, data, got, want)
		}
	})
}

func TestMidSharesNothingWithinItself(t *testing.T) {
	cases(t, func(p api.Params, seed uint32, data []byte, b *encode.Block) {
		want := b.Mid()
		for i, m := range b.Mid() {
			if !bytes.Equal(m, want[i]) {
				t.Fatalf("writing into a symbol of Mid of New(%v, %d, %v) changes symbol %d", p, seed, data, i)
			}
			spoil(m)
			spoil(append(m, 1))
		}
	})
}

// Symbols that are sums of one intermediate symbol, equal symbols and the same
// one twice are among them.
func TestSymbolsAreNewMemory(t *testing.T) {
	cases(t, func(p api.Params, seed uint32, data []byte, b *encode.Block) {
		want := asked(block(t, p, seed, data))
		list := asked(b)
		again := append(ids(), ids()...)
		for _, id := range again {
			list = append(list, b.Symbol(id))
		}
		before := asked(b)
		for i, s := range list {
			if i < len(want) && !bytes.Equal(s, want[i]) {
				t.Fatalf("writing into another answer of New(%v, %d, %v) changes answer %d", p, seed, data, i)
			}
			spoil(s)
			spoil(append(s, 1))
		}
		if !same(before, want) {
			t.Fatalf("what was written into symbols of New(%v, %d, %v) is in others: %v", p, seed, data, before)
		}
		if got := asked(b); !same(got, want) {
			t.Fatalf("what was written into symbols of New(%v, %d, %v) is in the Block: %v", p, seed, data, got)
		}
	})
}

// Two Blocks of the same data have nothing in common.
func TestBlocksAreApart(t *testing.T) {
	cases(t, func(p api.Params, seed uint32, data []byte, b *encode.Block) {
		want := asked(b)
		other := block(t, p, seed, data)
		overwrite(other.Mid())
		overwrite(asked(other))
		if got := asked(b); !same(got, want) {
			t.Fatalf("New(%v, %d, %v) has changed by another one: %v, want %v", p, seed, data, got, want)
		}
	})
}

// R5

func TestTheSameAgain(t *testing.T) {
	for _, p := range few() {
		right, bad := sorted(p, 2)
		for _, data := range blocks(p, 1) {
			b := block(t, p, right[0], data)
			want := asked(b)
			encode.New(api.Params{}, 4, data)
			encode.New(p, right[0], data[1:])
			for _, seed := range slices.Concat(right, bad) {
				encode.New(p, seed, bytes.Repeat([]byte{5}, len(data)))
			}
			block(t, api.Params{K: 2, H: 1, Size: 2}, 7, []byte{1, 2, 4, 8}).Symbol(3)
			if got := asked(b); !same(got, want) {
				t.Fatalf("New(%v, %d, %v) answers otherwise after other calls: %v, want %v", p, right[0], data, got, want)
			}
			if got := asked(block(t, p, right[0], data)); !same(got, want) {
				t.Fatalf("New(%v, %d, %v) is another one after other calls: %v, want %v", p, right[0], data, got, want)
			}
		}
	}
}

// In whatever order the symbols are asked for, each is the same.
func TestTheOrderPlaysNoPart(t *testing.T) {
	dice := rand.New(rand.NewSource(6))
	for _, p := range few() {
		right, _ := sorted(p, 1)
		b := block(t, p, right[0], blocks(p, 1)[2])
		list, want := ids(), map[int][]byte{}
		for _, id := range list {
			want[id] = b.Symbol(id)
		}
		dice.Shuffle(len(list), func(i, j int) { list[i], list[j] = list[j], list[i] })
		for _, id := range list {
			if got := b.Symbol(id); !bytes.Equal(got, want[id]) {
				t.Fatalf("Symbol(%d) of %v = %v, want %v", id, p, got, want[id])
			}
		}
	}
}

// One Block, and one list of data, may be used by several at once.
func TestManyAtOnce(t *testing.T) {
	p := api.Params{K: 12, H: 3, Size: 7}
	right, _ := sorted(p, 1)
	data := blocks(p, 1)[2]
	b := block(t, p, right[0], data)
	want := asked(b)
	var wait sync.WaitGroup
	for range 8 {
		wait.Go(func() {
			for range 10 {
				own, e := encode.New(p, right[0], data)
				got, theirs := asked(own), asked(b)
				if e != api.OK || !same(got, want) || !same(theirs, want) {
					t.Error("another answer to the same question")
					return
				}
				overwrite(got)
				overwrite(theirs)
			}
		})
	}
	wait.Wait()
}

func Example() {
	b, e := encode.New(api.Params{K: 2, H: 1, Size: 3}, 7, []byte("abcdef"))
	fmt.Println(e == api.OK, len(b.Mid()))
	fmt.Printf("%s %s\n", b.Symbol(0), b.Symbol(1))
	fmt.Println(b.Symbol(3), b.Symbol(-1))
	_, short := encode.New(api.Params{K: 2, H: 1, Size: 3}, 7, []byte("abc"))
	fmt.Println(short == api.ErrArg)
	// Output:
	// true 3
	// abc def
	// [76 76 64] []
	// true
}
