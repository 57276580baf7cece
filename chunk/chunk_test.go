package chunk_test

import (
	"bytes"
	"fmt"
	"math"
	"math/big"
	"math/rand"
	"slices"
	"sync"
	"testing"

	"wellspring/api"
	"wellspring/chunk"
)

// filled are bytes of a fixed seed, none of them 0.
func filled(seed int64, n int) []byte {
	r := rand.New(rand.NewSource(seed))
	b := make([]byte, n)
	for i := range b {
		b[i] = byte(1 + r.Intn(255))
	}
	return b
}

// valid are all parameters that are.
func valid() []api.Params {
	var list []api.Params
	for k := 1; k <= 16; k++ {
		for h := 1; h <= 4; h++ {
			for size := 1; size <= 24; size++ {
				list = append(list, api.Params{K: k, H: h, Size: size})
			}
		}
	}
	return list
}

// some are parameters with each part at its least, between, and at its greatest.
func some() []api.Params {
	var list []api.Params
	for _, k := range []int{1, 2, 7, 16} {
		for _, h := range []int{1, 3, 4} {
			for _, size := range []int{1, 2, 11, 24} {
				list = append(list, api.Params{K: k, H: h, Size: size})
			}
		}
	}
	return list
}

// numbersOutside are numbers below 1 or above most: just outside, far outside, and some
// that would be within if cut to their lowest bits.
func numbersOutside(most int) []int {
	list := []int{
		0, -1, -2, most + 1, most + 2, -most, -most - 1, -1000, 1000, 1 << 40,
		math.MinInt, math.MinInt + 1, math.MaxInt, math.MaxInt - 1, math.MinInt32, math.MaxInt32,
	}
	for _, bits := range []int{8, 16, 24, 31, 32, 33, 48, 56, 62} {
		for _, low := range []int{0, 1, most} {
			list = append(list, low+1<<bits, low-1<<bits)
		}
	}
	return list
}

// notValid are parameters with one part outside its bounds, or all of them.
func notValid() []api.Params {
	list := []api.Params{{}}
	for _, p := range []api.Params{{K: 1, H: 1, Size: 1}, {K: 7, H: 3, Size: 11}, {K: 16, H: 4, Size: 24}} {
		for _, n := range numbersOutside(16) {
			list = append(list, api.Params{K: n, H: p.H, Size: p.Size})
		}
		for _, n := range numbersOutside(4) {
			list = append(list, api.Params{K: p.K, H: n, Size: p.Size})
		}
		for _, n := range numbersOutside(24) {
			list = append(list, api.Params{K: p.K, H: p.H, Size: n})
		}
	}
	return append(list, notValidTogether()...)
}

// notValidTogether are parameters with several parts outside, whose product may be 0 or
// that of valid ones.
func notValidTogether() []api.Params {
	return []api.Params{
		{K: -1, H: 1, Size: -1}, {K: -7, H: 3, Size: -11}, {K: -16, H: -4, Size: -24}, {K: 0, H: 1, Size: 0},
		{K: 1 << 32, H: 1, Size: 1 << 32}, {K: 1 << 62, H: 2, Size: 4}, {K: 2, H: 2, Size: math.MinInt},
		{K: math.MinInt, H: 1, Size: -1}, {K: math.MaxInt, H: 1, Size: math.MaxInt},
		{K: math.MinInt, H: math.MinInt, Size: math.MinInt}, {K: math.MaxInt, H: math.MaxInt, Size: math.MaxInt},
		{K: 17, H: 5, Size: 25}, {K: 24, H: 4, Size: 16}, {K: 48, H: 1, Size: 2}, {K: 2, H: 1, Size: 48},
		{K: 384, H: 1, Size: 1}, {K: 1, H: 1, Size: 384},
	}
}

// lengths are how many bytes there may be about blocks of so many: none, one, fewer than a
// block, just one or several, and one more or less.
func lengths(size int) []int {
	list := []int{0, 1}
	for _, blocks := range []int{1, 2, 3, 5, 8, 9} {
		for _, n := range []int{blocks*size - 1, blocks * size, blocks*size + 1, blocks*size - size/2} {
			list = append(list, n)
		}
	}
	slices.Sort(list)
	return slices.Compact(list)
}

// needed is how many blocks n bytes need, one block after another.
func needed(p api.Params, n int) int {
	count := 0
	for room := 0; room < n; room += p.K * p.Size {
		count++
	}
	return count
}

// neededOf is the same of very many bytes: the least number whose bytes are not fewer.
func neededOf(p api.Params, n int) int {
	size, bytes := big.NewInt(int64(p.K*p.Size)), big.NewInt(int64(n))
	sum := new(big.Int).Add(bytes, new(big.Int).Sub(size, big.NewInt(1)))
	return int(sum.Div(sum, size).Int64())
}

// blocksOf are bytes in blocks by the words of the chapter, byte by byte.
func blocksOf(p api.Params, b []byte) [][]byte {
	list := [][]byte{}
	for i, x := range b {
		if i%(p.K*p.Size) == 0 {
			list = append(list, []byte{})
		}
		list[len(list)-1] = append(list[len(list)-1], x)
	}
	for len(list) > 0 && len(list[len(list)-1]) < p.K*p.Size {
		list[len(list)-1] = append(list[len(list)-1], 0)
	}
	return list
}

// filledBlocks are so many blocks of bytes, none of them 0.
func filledBlocks(seed int64, p api.Params, count int) [][]byte {
	list := make([][]byte, count)
	for i := range list {
		list[i] = filled(seed+int64(i), p.K*p.Size)
	}
	return list
}

// firstOf are the first n bytes of blocks.
func firstOf(l [][]byte, n int) []byte {
	b := []byte{}
	for _, block := range l {
		for _, x := range block {
			if len(b) < n {
				b = append(b, x)
			}
		}
	}
	return b
}

func same(a, b [][]byte) bool {
	return slices.EqualFunc(a, b, bytes.Equal)
}

// copied are blocks in memory of their own.
func copied(l [][]byte) [][]byte {
	list := make([][]byte, len(l))
	for i := range l {
		list[i] = slices.Clone(l[i])
	}
	return list
}

// joined asserts that Join returns these bytes.
func joined(t *testing.T, p api.Params, l [][]byte, n int, want []byte) {
	t.Helper()
	if got, ok := chunk.Join(p, l, n); !ok || !bytes.Equal(got, want) {
		t.Fatalf("Join of %+v, %d blocks, %d = %x, %v, want %x", p, len(l), n, got, ok, want)
	}
}

// notJoined asserts that Join says false, and nothing else.
func notJoined(t *testing.T, p api.Params, l [][]byte, n int) {
	t.Helper()
	if got, ok := chunk.Join(p, l, n); ok || len(got) != 0 {
		t.Fatalf("Join of %+v, %d blocks, %d = %x, %v, want none", p, len(l), n, got, ok)
	}
}

// P18.1: Count

func TestCountOfAllParameters(t *testing.T) {
	for _, p := range valid() {
		for _, n := range lengths(p.K * p.Size) {
			if got, want := chunk.Count(p, n), needed(p, n); got != want {
				t.Fatalf("Count(%+v, %d) = %d, want %d", p, n, got, want)
			}
		}
	}
}

// Each length up to several blocks.
func TestCountOfEachLength(t *testing.T) {
	for _, p := range some() {
		for n := range 5*p.K*p.Size + 2 {
			if got, want := chunk.Count(p, n), needed(p, n); got != want {
				t.Fatalf("Count(%+v, %d) = %d, want %d", p, n, got, want)
			}
		}
	}
}

func TestCountWrittenOut(t *testing.T) {
	for _, c := range []struct{ k, h, size, n, want int }{
		{1, 1, 1, 0, 0}, {1, 1, 1, 1, 1}, {1, 1, 1, 2, 2}, {1, 1, 1, 1000, 1000},
		{4, 2, 3, 0, 0}, {4, 2, 3, 1, 1}, {4, 2, 3, 11, 1}, {4, 2, 3, 12, 1}, {4, 2, 3, 13, 2}, {4, 2, 3, 24, 2},
		{4, 2, 3, 25, 3}, {4, 2, 3, 96, 8}, {4, 2, 3, 97, 9}, {3, 1, 4, 13, 2},
		{16, 4, 24, 0, 0}, {16, 4, 24, 383, 1}, {16, 4, 24, 384, 1}, {16, 4, 24, 385, 2}, {16, 4, 24, 3072, 8},
		{16, 4, 24, 3073, 9}, {16, 4, 24, 65535, 171},
	} {
		p := api.Params{K: c.k, H: c.h, Size: c.size}
		if got := chunk.Count(p, c.n); got != c.want {
			t.Errorf("Count(%+v, %d) = %d, want %d", p, c.n, got, c.want)
		}
	}
}

// Numbers about powers of 2 and the greatest int, which n rounded up would pass.
func TestCountOfVeryManyBytes(t *testing.T) {
	for _, p := range valid() {
		list := []int{math.MaxInt, math.MaxInt - 1, math.MaxInt - p.K*p.Size, math.MaxInt - p.K*p.Size + 1}
		for _, bits := range []int{8, 16, 24, 31, 32, 33, 48, 62} {
			list = append(list, 1<<bits-1, 1<<bits, 1<<bits+1)
		}
		for _, n := range list {
			if got, want := chunk.Count(p, n), neededOf(p, n); got != want {
				t.Fatalf("Count(%+v, %d) = %d, want %d", p, n, got, want)
			}
		}
	}
}

func TestCountOfTheGreatestInt(t *testing.T) {
	for _, c := range []struct{ k, size, want int }{
		{1, 1, 9223372036854775807}, {1, 2, 4611686018427387904}, {2, 3, 1537228672809129302},
		{7, 1, 1317624576693539401}, {16, 24, 24019198012642646},
	} {
		p := api.Params{K: c.k, H: 2, Size: c.size}
		if got := chunk.Count(p, 9223372036854775807); got != c.want {
			t.Errorf("Count(%+v, 9223372036854775807) = %d, want %d", p, got, c.want)
		}
	}
}

func TestCountBelowZero(t *testing.T) {
	for _, p := range valid() {
		size := p.K * p.Size
		for _, n := range []int{
			-1, -2, -size + 1, -size, -size - 1, -2 * size, -1000, -1 << 32, 1 - 1<<32, 5 - 1<<40,
			math.MinInt, math.MinInt + 1, math.MinInt + size, math.MinInt32,
		} {
			if got := chunk.Count(p, n); n < 0 && got != 0 {
				t.Fatalf("Count(%+v, %d) = %d, want 0", p, n, got)
			}
		}
	}
}

func TestCountOfParametersNotValid(t *testing.T) {
	for _, p := range notValid() {
		for _, n := range []int{0, 1, 2, 77, 384, 1 << 20, 1 << 32, math.MaxInt, -1, -384, math.MinInt} {
			if got := chunk.Count(p, n); got != 0 {
				t.Fatalf("Count(%+v, %d) = %d, want 0", p, n, got)
			}
		}
	}
}

// H does not count, but it must be valid.
func TestCountOfEachH(t *testing.T) {
	for h := -1; h <= 6; h++ {
		want := 0
		if h >= 1 && h <= 4 {
			want = 3
		}
		if got := chunk.Count(api.Params{K: 5, H: h, Size: 7}, 80); got != want {
			t.Errorf("Count of H %d = %d, want %d", h, got, want)
		}
	}
}

// P18.1: Split

func TestSplitOfAllParameters(t *testing.T) {
	for _, p := range valid() {
		for _, n := range lengths(p.K * p.Size) {
			b := filled(int64(n), n)
			got, want := chunk.Split(p, b), blocksOf(p, b)
			if !same(got, want) {
				t.Fatalf("Split(%+v, %x) = %x, want %x", p, b, got, want)
			}
			if len(got) != chunk.Count(p, n) {
				t.Fatalf("Split of %+v and %d bytes has %d blocks, Count says %d", p, n, len(got), chunk.Count(p, n))
			}
		}
	}
}

// Each length up to several blocks, and bytes of several kinds.
func TestSplitOfEachLength(t *testing.T) {
	for _, p := range some() {
		for n := range 3*p.K*p.Size + 2 {
			for _, b := range [][]byte{filled(int64(n), n), make([]byte, n), bytes.Repeat([]byte{255}, n)} {
				if got, want := chunk.Split(p, b), blocksOf(p, b); !same(got, want) {
					t.Fatalf("Split(%+v, %x) = %x, want %x", p, b, got, want)
				}
			}
		}
	}
}

// Block by block: what it has of b, and what is behind.
func TestSplitBlockByBlock(t *testing.T) {
	for _, p := range some() {
		size := p.K * p.Size
		for _, n := range lengths(size) {
			b := filled(int64(n), n)
			for i, block := range chunk.Split(p, b) {
				if len(block) != size {
					t.Fatalf("Split of %+v and %d bytes: block %d has %d bytes", p, n, i, len(block))
				}
				part := b[i*size : min(n, i*size+size)]
				if !bytes.HasPrefix(block, part) || !bytes.Equal(block[len(part):], make([]byte, size-len(part))) {
					t.Fatalf("Split(%+v, %x): block %d is %x", p, b, i, block)
				}
			}
		}
	}
}

func TestSplitWrittenOut(t *testing.T) {
	for _, c := range []struct {
		k, size int
		b       string
		want    []string
	}{
		{1, 1, "", nil},
		{1, 1, "well", []string{"w", "e", "l", "l"}},
		{2, 2, "", nil},
		{2, 2, "w", []string{"w\x00\x00\x00"}},
		{2, 2, "wel", []string{"wel\x00"}},
		{2, 2, "well", []string{"well"}},
		{2, 2, "wells", []string{"well", "s\x00\x00\x00"}},
		{3, 1, "wellspring", []string{"wel", "lsp", "rin", "g\x00\x00"}},
		{1, 3, "wellspring", []string{"wel", "lsp", "rin", "g\x00\x00"}},
		{5, 1, "wellspring", []string{"wells", "pring"}},
		{2, 2, "\x00\x00\x00\x00\x00", []string{"\x00\x00\x00\x00", "\x00\x00\x00\x00"}},
	} {
		p := api.Params{K: c.k, H: 1, Size: c.size}
		got := chunk.Split(p, []byte(c.b))
		if !slices.EqualFunc(got, c.want, func(a []byte, b string) bool { return string(a) == b }) {
			t.Errorf("Split(%+v, %q) = %q, want %q", p, c.b, got, c.want)
		}
	}
}

func TestSplitOfNoBytes(t *testing.T) {
	for _, p := range valid() {
		for _, b := range [][]byte{nil, {}, make([]byte, 0, 500), filled(1, 9)[9:], filled(2, 9)[:0]} {
			if got := chunk.Split(p, b); len(got) != 0 {
				t.Fatalf("Split of %+v and no bytes = %x, want none", p, got)
			}
		}
	}
}

func TestSplitOfManyBytes(t *testing.T) {
	for _, p := range []api.Params{{K: 1, H: 1, Size: 1}, {K: 7, H: 2, Size: 11}, {K: 16, H: 4, Size: 24}} {
		b := filled(3, 200_001)
		if got := chunk.Split(p, b); !same(got, blocksOf(p, b)) {
			t.Errorf("Split of %+v and %d bytes has %d blocks, which are not its", p, len(b), len(got))
		}
	}
}

func TestSplitOfParametersNotValid(t *testing.T) {
	for _, p := range notValid() {
		for _, n := range []int{0, 1, 2, 77, 384, 385, 3072} {
			if got := chunk.Split(p, filled(4, n)); len(got) != 0 {
				t.Fatalf("Split of %+v and %d bytes = %x, want none", p, n, got)
			}
		}
		if got := chunk.Split(p, nil); len(got) != 0 {
			t.Fatalf("Split of %+v and nil = %x, want none", p, got)
		}
	}
}

// P18.1: Join

func TestJoinOfWhatSplitReturns(t *testing.T) {
	for _, p := range valid() {
		for _, n := range lengths(p.K * p.Size) {
			b := filled(int64(n), n)
			joined(t, p, chunk.Split(p, b), n, b)
		}
	}
}

func TestJoinOfBlocksByTheWords(t *testing.T) {
	for _, p := range some() {
		for n := range 3*p.K*p.Size + 2 {
			b := filled(int64(n), n)
			joined(t, p, blocksOf(p, b), n, b)
		}
	}
}

// Each length for which as many blocks are needed, down to the least, has its own bytes;
// the lengths just beyond have none.
func TestJoinOfEachLengthOfTheBlocks(t *testing.T) {
	for _, p := range some() {
		size := p.K * p.Size
		for count := range 4 {
			l := filledBlocks(int64(size), p, count)
			for n := range 5*size + 1 {
				if n > (count-1)*size && n <= count*size {
					joined(t, p, l, n, firstOf(l, n))
					continue
				}
				notJoined(t, p, l, n)
			}
		}
	}
}

func TestJoinWrittenOut(t *testing.T) {
	p := api.Params{K: 2, H: 1, Size: 2}
	l := [][]byte{[]byte("well"), []byte("spri"), []byte("ngs!")}
	for n, want := range map[int]string{9: "wellsprin", 10: "wellspring", 11: "wellsprings", 12: "wellsprings!"} {
		joined(t, p, l, n, []byte(want))
	}
	notJoined(t, p, l, 8)
	notJoined(t, p, l, 13)
	joined(t, p, l[:1], 1, []byte("w"))
	joined(t, p, l[1:], 6, []byte("spring"))
}

// The bytes behind the first n do not count: they need not be 0.
func TestJoinOfBytesBehind(t *testing.T) {
	p := api.Params{K: 3, H: 2, Size: 5}
	b := filled(5, 20)
	for x := range 256 {
		l := blocksOf(p, b)
		for i := 5; i < 15; i++ {
			l[1][i] = byte(x)
		}
		joined(t, p, l, 20, b)
	}
}

func TestJoinOfNoBlocks(t *testing.T) {
	for _, p := range valid() {
		for _, l := range [][][]byte{nil, {}, make([][]byte, 0, 5)} {
			joined(t, p, l, 0, nil)
			for _, n := range []int{1, p.K * p.Size, p.K*p.Size + 1, 1 << 32, math.MaxInt, -1, math.MinInt} {
				notJoined(t, p, l, n)
			}
		}
	}
}

// Blocks of one memory are joined like others.
func TestJoinOfOneBlockSeveralTimes(t *testing.T) {
	p := api.Params{K: 2, H: 1, Size: 3}
	block := []byte("spring")
	joined(t, p, [][]byte{block, block, block}, 18, []byte("springspringspring"))
	joined(t, p, [][]byte{block, block, block}, 13, []byte("springsprings"))
}

// Blocks that are parts of one memory, with bytes behind them that do not count.
func TestJoinOfSpareCapacity(t *testing.T) {
	for _, p := range some() {
		size := p.K * p.Size
		around := filled(6, 4*size+9)
		l := [][]byte{around[2 : 2+size], around[3*size:][:size], around[size:][:size]}
		joined(t, p, l, 3*size, firstOf(copied(l), 3*size))
		joined(t, p, l, 2*size+1, firstOf(copied(l), 2*size+1))
		l[1] = l[1][: size-1 : size]
		notJoined(t, p, l, 3*size)
	}
}

func TestJoinOfManyBlocks(t *testing.T) {
	for _, p := range []api.Params{{K: 1, H: 1, Size: 1}, {K: 7, H: 2, Size: 11}, {K: 16, H: 4, Size: 24}} {
		b := filled(7, 200_001)
		l := blocksOf(p, b)
		joined(t, p, l, len(b), b)
		notJoined(t, p, l[1:], len(b))
		notJoined(t, p, append(l, l[0]), len(b))
	}
}

func TestJoinOfParametersNotValid(t *testing.T) {
	for _, p := range notValid() {
		for _, n := range []int{0, 1, 2, 77, 384, 385, 1 << 32, math.MaxInt, -1, math.MinInt} {
			notJoined(t, p, nil, n)
			for _, size := range []int{0, 1, 77, 384} {
				l := [][]byte{filled(8, size)}
				notJoined(t, p, l, n)
				notJoined(t, p, append(l, filled(9, size)), n)
			}
		}
	}
}

// Blocks that would be right if a part outside its bounds were taken as it is.
func TestJoinOfParametersJustOutside(t *testing.T) {
	for _, p := range []api.Params{
		{K: 17, H: 1, Size: 1}, {K: 1, H: 1, Size: 25}, {K: 3, H: 0, Size: 5}, {K: 3, H: 5, Size: 5}, {K: 17, H: 4, Size: 24},
		{K: 16, H: 4, Size: 25}, {K: 16, H: 5, Size: 24}, {K: 0, H: 1, Size: 5}, {K: 5, H: 1, Size: 0}, {K: -2, H: 1, Size: -3},
	} {
		for count := range 4 {
			l := filledBlocks(9, p, count)
			for n := range count*p.K*p.Size + 2 {
				notJoined(t, p, l, n)
			}
		}
	}
}

func TestJoinBelowZero(t *testing.T) {
	for _, p := range valid() {
		size := p.K * p.Size
		for count := range 3 {
			l := filledBlocks(10, p, count)
			for _, n := range []int{-1, -2, -size, -2*size - 1, -1 << 32, 1 - 1<<32, size - 1<<32, math.MinInt, math.MinInt + 1, math.MinInt + size} {
				if n < 0 {
					notJoined(t, p, l, n)
				}
			}
		}
	}
}

// One block, or several, too few or too many, of which some may be empty.
func TestJoinOfTooFewOrTooManyBlocks(t *testing.T) {
	for _, p := range valid() {
		size := p.K * p.Size
		l := filledBlocks(11, p, 7)
		for _, count := range []int{0, 1, 2, 3, 5} {
			for _, n := range []int{count * size, count*size - size/2} {
				for have := range 8 {
					if have != count {
						notJoined(t, p, l[:have], max(n, 0))
					}
				}
			}
			full := filledBlocks(12, p, count)
			notJoined(t, p, append(full, nil), count*size)
			notJoined(t, p, append(full, []byte{}), count*size)
			notJoined(t, p, append([][]byte{{}}, full...), count*size)
		}
	}
}

// n that the blocks do not have: also one that would fit if it were cut to its lowest bits.
func TestJoinOfVeryManyBytes(t *testing.T) {
	for _, p := range valid() {
		size := p.K * p.Size
		for count := range 4 {
			l := filledBlocks(13, p, count)
			for _, n := range []int{
				math.MaxInt, math.MaxInt - 1, math.MaxInt - size, math.MaxInt - size + 1, math.MaxInt32, math.MaxUint32,
				1<<16 + count*size, 1<<31 + count*size, 1<<32 + count*size, 1<<48 + count*size, 1<<62 + count*size,
				1 << 32, 1<<62 - 1, count*size + 1,
			} {
				notJoined(t, p, l, n)
			}
		}
	}
}

// One block, at each place, with a byte or more too few or too many.
func TestJoinOfBlocksCutOrLengthened(t *testing.T) {
	for _, p := range valid() {
		size := p.K * p.Size
		for count := 1; count <= 5; count++ {
			l := filledBlocks(14, p, count)
			for i := range l {
				for _, other := range []int{0, 1, size / 2, size - 1, size + 1, size + 2, 2 * size, size + 256, size + 65536} {
					if other == size || other > 1000 && p.H+p.Size > 3 {
						continue
					}
					changed := slices.Clone(l)
					changed[i] = filled(15, other)
					for _, n := range []int{(count-1)*size + 1, count*size - 1, count * size} {
						if n > (count-1)*size {
							notJoined(t, p, changed, n)
						}
					}
				}
				changed := slices.Clone(l)
				changed[i] = nil
				notJoined(t, p, changed, count*size)
			}
		}
	}
}

// As many bytes in all as are needed, but not as many in each block.
func TestJoinOfBlocksOfUnequalLength(t *testing.T) {
	for _, p := range valid() {
		size := p.K * p.Size
		for _, c := range [][]int{{size - 1, size + 1}, {size + 1, size - 1}, {0, 2 * size}, {2 * size, 0}, {size - 1, size, size + 1}, {size, 0, 2 * size}} {
			var l [][]byte
			for _, n := range c {
				l = append(l, filled(16, n))
			}
			notJoined(t, p, l, len(c)*size)
			notJoined(t, p, l, (len(c)-1)*size+1)
		}
	}
}

// The last block has not just the bytes that n needs of it: it must be padded.
func TestJoinOfALastBlockNotPadded(t *testing.T) {
	for _, p := range some() {
		size := p.K * p.Size
		for n := 1; n <= 2*size; n++ {
			if n%size == 0 {
				continue
			}
			l := blocksOf(p, filled(17, n))
			l[len(l)-1] = l[len(l)-1][:n%size]
			notJoined(t, p, l, n)
		}
	}
}

func TestSplitAndJoinByChance(t *testing.T) {
	random := rand.New(rand.NewSource(18))
	for range 5_000 {
		p := api.Params{K: 1 + random.Intn(16), H: 1 + random.Intn(4), Size: 1 + random.Intn(24)}
		b := make([]byte, random.Intn(4000))
		random.Read(b)
		l := chunk.Split(p, b)
		if !same(l, blocksOf(p, b)) {
			t.Fatalf("Split(%+v, %x) = %x", p, b, l)
		}
		joined(t, p, l, len(b), b)
	}
}

// R3, R4, R5

// overwrite changes each byte, and those that there is room for behind them.
func overwrite(b []byte) {
	b = b[:cap(b)]
	for i := range b {
		b[i] ^= 0x3c
	}
}

func TestSplitDoesNotModify(t *testing.T) {
	for _, p := range some() {
		for _, n := range lengths(p.K * p.Size) {
			around := filled(int64(n), n+400)
			kept := slices.Clone(around)
			chunk.Split(p, around[5:5+n])
			chunk.Split(p, around[5:5+n:5+n])
			chunk.Split(api.Params{K: p.K, Size: p.Size}, around[5:5+n])
			if !bytes.Equal(around, kept) {
				t.Fatalf("Split of %+v and %d bytes has changed them or those about them", p, n)
			}
		}
	}
}

// Each block is written over, to the end of its memory: no other one changes, nor what was
// passed, nor what is returned later.
func TestSplitReturnsNewMemory(t *testing.T) {
	for _, p := range some() {
		for _, n := range lengths(p.K * p.Size) {
			b := filled(int64(n), n)
			kept, want := slices.Clone(b), blocksOf(p, b)
			one, two := chunk.Split(p, b), chunk.Split(p, b)
			for i := range one {
				overwrite(one[i])
				if !same(one[i+1:], want[i+1:]) || !same(two, want) || !bytes.Equal(b, kept) {
					t.Fatalf("Split of %+v and %d bytes: block %d shares memory", p, n, i)
				}
			}
			clear(one[:cap(one)])
			if !same(two, want) || !same(chunk.Split(p, b), want) {
				t.Fatalf("Split of %+v and %d bytes has kept what it returned", p, n)
			}
			overwrite(b)
			if !same(two, want) {
				t.Fatalf("Split of %+v and %d bytes has kept them", p, n)
			}
		}
	}
}

// A block that is appended to does not run over into the next one.
func TestSplitBlocksAreAppendedTo(t *testing.T) {
	for _, p := range some() {
		b := filled(19, 3*p.K*p.Size)
		l := chunk.Split(p, b)
		for i := range l {
			_ = append(l[i], filled(20, 2*p.K*p.Size)...)
		}
		if !same(l, blocksOf(p, b)) {
			t.Fatalf("Split of %+v: a block runs over into another", p)
		}
	}
}

// frame are blocks that lie one after the other in a memory with bytes about each of them,
// and in a list with more behind them.
func frame(p api.Params, count int) (around []byte, l [][]byte) {
	size := p.K * p.Size
	around = filled(int64(count), (count+1)*(size+3))
	for i := range count + 2 {
		from := min(i, count) * (size + 3)
		l = append(l, around[from:][:size])
	}
	return around, l[:count]
}

func TestJoinDoesNotModify(t *testing.T) {
	for _, p := range some() {
		size := p.K * p.Size
		for count := range 4 {
			around, l := frame(p, count)
			kept := slices.Clone(around)
			heads := slices.Clone(l[:count+2])
			for _, n := range []int{0, 1, count*size - size + 1, count*size - 1, count * size, count*size + 1, -1, math.MaxInt} {
				chunk.Join(p, l, n)
				chunk.Join(api.Params{K: p.K, Size: p.Size}, l, n)
			}
			if !bytes.Equal(around, kept) {
				t.Fatalf("Join of %+v and %d blocks has changed their bytes or those about them", p, count)
			}
			for i, head := range l[:count+2] {
				if &head[0] != &heads[i][0] || len(head) != size || cap(head) != cap(heads[i]) {
					t.Fatalf("Join of %+v and %d blocks has changed the list", p, count)
				}
			}
		}
	}
}

func TestJoinReturnsNewMemory(t *testing.T) {
	for _, p := range some() {
		size := p.K * p.Size
		for count := 1; count < 4; count++ {
			for _, n := range []int{count*size - size + 1, count*size - size/2, count * size} {
				around, l := frame(p, count)
				kept, want := slices.Clone(around), firstOf(l, n)
				one, _ := chunk.Join(p, l, n)
				two, _ := chunk.Join(p, l, n)
				overwrite(one)
				_ = append(one, filled(21, 2*size)...)
				if !bytes.Equal(around, kept) || !bytes.Equal(two, want) {
					t.Fatalf("Join of %+v, %d blocks, %d: what it returned shares memory", p, count, n)
				}
				joined(t, p, l, n, want)
				overwrite(around)
				if !bytes.Equal(two, want) {
					t.Fatalf("Join of %+v, %d blocks, %d has kept the blocks", p, count, n)
				}
				clear(l)
				if !bytes.Equal(two, want) {
					t.Fatalf("Join of %+v, %d blocks, %d has kept the list", p, count, n)
				}
			}
		}
	}
}

// What was asked before does not count.
func TestTheSameAgain(t *testing.T) {
	bad := notValid()
	for i, p := range valid() {
		size := p.K * p.Size
		n := []int{0, 1, size, size + 1, 3*size - 1}[i%5]
		b := filled(int64(n), n)
		first := chunk.Split(p, b)
		again, ok := chunk.Join(p, first, n)
		for range 2 {
			chunk.Count(bad[i%len(bad)], n)
			chunk.Split(bad[i%len(bad)], b)
			notJoined(t, bad[i%len(bad)], first, n)
			notJoined(t, p, first, n+size)
			chunk.Split(p, filled(22, 4*size))
			if chunk.Count(p, n) != len(first) || !same(chunk.Split(p, b), first) {
				t.Fatalf("%+v, %d bytes: another answer once more", p, n)
			}
			if once, still := chunk.Join(p, first, n); !bytes.Equal(once, again) || still != ok {
				t.Fatalf("Join of %+v and %d bytes = %x, %v, and once more %x, %v", p, n, again, ok, once, still)
			}
		}
	}
}

// Where the bytes lie, and how much room is behind them, does not count.
func TestOfWhatIsGivenAlone(t *testing.T) {
	p := api.Params{K: 4, H: 2, Size: 5}
	for _, n := range lengths(20) {
		b := filled(23, n)
		want := blocksOf(p, b)
		for _, spare := range []int{0, 1, 19, 20, 21, 500} {
			around := append(append(filled(24, 7), b...), filled(25, spare)...)
			if got := chunk.Split(p, around[7:7+n]); !same(got, want) {
				t.Fatalf("Split of %d bytes with %d behind = %x, want %x", n, spare, got, want)
			}
		}
	}
}

func TestManyAtOnce(t *testing.T) {
	b := filled(26, 1000)
	kept := slices.Clone(b)
	list := some()
	blocks := map[api.Params][][]byte{}
	for _, p := range list {
		blocks[p] = blocksOf(p, b)
	}
	var all sync.WaitGroup
	for range 16 {
		all.Go(func() {
			for _, p := range list {
				if got := chunk.Split(p, b); !same(got, blocks[p]) || chunk.Count(p, len(b)) != len(got) {
					t.Errorf("Split(%+v, b) = %x", p, got)
				}
				if got, ok := chunk.Join(p, blocks[p], len(b)); !ok || !bytes.Equal(got, kept) {
					t.Errorf("Join(%+v, l, %d) = %x, %v", p, len(b), got, ok)
				}
			}
		})
	}
	all.Wait()
}

func ExampleCount() {
	p := api.Params{K: 4, H: 2, Size: 3}
	fmt.Println(chunk.Count(p, 0), chunk.Count(p, 12), chunk.Count(p, 13))
	// Output: 0 1 2
}

func ExampleSplit() {
	fmt.Printf("%q\n", chunk.Split(api.Params{K: 2, H: 1, Size: 3}, []byte("wellspring")))
	// Output: ["wellsp" "ring\x00\x00"]
}

func ExampleJoin() {
	p := api.Params{K: 2, H: 1, Size: 3}
	b, ok := chunk.Join(p, [][]byte{[]byte("wellsp"), []byte("ring..")}, 10)
	fmt.Printf("%q %v\n", b, ok)
	// Output: "wellspring" true
}
