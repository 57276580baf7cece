package system_test

import (
	"bytes"
	"fmt"
	"math"
	"math/rand"
	"slices"
	"sync"
	"testing"

	"wellspring/api"
	"wellspring/gf"
	"wellspring/lt"
	"wellspring/mat"
	"wellspring/pre"
	"wellspring/system"
)

// wanted is what Matrix returns by the chapter's words, of valid parameters.
func wanted(p api.Params, seed uint32, ids []int) [][]byte {
	var list [][]byte
	for _, r := range pre.Rows(p) {
		list = append(list, bytes.Clone(r))
	}
	for _, id := range ids {
		if 0 <= id && id <= 65535 {
			list = append(list, bytes.Clone(lt.Row(p, seed, id)))
		}
	}
	return list
}

// times is a product in the field by the definition of chapter 1, bit by bit,
// without package gf.
func times(a, b byte) byte {
	product := byte(0)
	for ; b > 0; b >>= 1 {
		if b&1 == 1 {
			product ^= a
		}
		if a >= 128 {
			a = a<<1 ^ 0x1b
		} else {
			a <<= 1
		}
	}
	return product
}

// rankOf is the rank of the rows, without package mat: as long as one of them has
// something in the first column, it is taken out, and that column made 0 in the
// others by multiples of both. Then the first column is cut off.
func rankOf(rows [][]byte) int {
	rank := 0
	for len(rows) > 0 && len(rows[0]) > 0 {
		at := slices.IndexFunc(rows, func(r []byte) bool { return r[0] != 0 })
		var rest [][]byte
		for i, r := range rows {
			if i == at {
				continue
			}
			tail := []byte{}
			for c := 1; c < len(r); c++ {
				x := r[c]
				if at >= 0 {
					x = times(rows[at][0], r[c]) ^ times(r[0], rows[at][c])
				}
				tail = append(tail, x)
			}
			rest = append(rest, tail)
		}
		if at >= 0 {
			rank++
		}
		rows = rest
	}
	return rank
}

func same(a, b [][]byte) bool {
	return slices.EqualFunc(a, b, bytes.Equal)
}

// upTo are the IDs from 0 on below n.
func upTo(n int) []int {
	ids := []int{}
	for len(ids) < n {
		ids = append(ids, len(ids))
	}
	return ids
}

// codes are valid parameters of each K and H.
func codes() []api.Params {
	var list []api.Params
	for k := 1; k <= api.MaxK; k++ {
		for h := 1; h <= api.MaxH; h++ {
			list = append(list, api.Params{K: k, H: h, Size: (7*k+h)%api.MaxSize + 1})
		}
	}
	return list
}

// few are those of the least, the greatest, and some between.
func few() []api.Params {
	var list []api.Params
	for _, k := range []int{1, 2, 9, api.MaxK} {
		for _, h := range []int{1, 3, api.MaxH} {
			list = append(list, api.Params{K: k, H: h, Size: k + h})
		}
	}
	return list
}

// seeds are ordinary ones and edges.
func seeds() []uint32 {
	return []uint32{0, 1, 2, 5, 77, 256, 65536, 123456789, 2654435761, math.MaxInt32, 1 << 31, math.MaxUint32}
}

// noIDs are numbers below 0 and beyond MaxID. Cut to 8, 16 or 32 bits, or without
// their sign, many of them would be IDs.
func noIDs() []int {
	list := []int{
		-1, api.MaxID + 1, math.MinInt, math.MinInt + 1, math.MinInt32, math.MinInt32 - 1, -1 << 62, -1 << 32,
		math.MaxInt, math.MaxInt - 1, math.MaxInt32, math.MaxInt32 + 1, math.MaxUint32, 1 << 40, 1 << 62, 100000,
	}
	for _, n := range []int{0, 1, 2, 3, 4, 5, 7, 8, 15, 255, 65534, 65535} {
		list = append(list, -n-1, 65536+n, 1<<17+n, 1<<31+n, 1<<32+n, n-1<<17, n-1<<32, n+1+math.MinInt)
	}
	return list
}

// lists are lists of IDs: none, few, just enough, too many, in and out of order,
// with repeats, and with numbers among them that are no IDs, or no others.
func lists(k int) [][]int {
	reversed := upTo(k)
	slices.Reverse(reversed)
	strewn := noIDs()
	for i := range strewn {
		strewn[i] = []int{strewn[i], i / 3, i / 3}[i%3]
	}
	all := [][]int{
		nil, {}, {0}, {1}, {api.MaxID}, {-1}, {api.MaxID + 1}, noIDs(), strewn,
		{-1, 0, api.MaxID + 1, api.MaxID, -1, 0}, {5, 5}, {7, 3, 7, 3, 3}, {api.MaxID, 0, api.MaxID},
		slices.Repeat([]int{k}, 3*k), slices.Repeat([]int{-k}, 3*k), slices.Repeat(upTo(k), 3), reversed,
		upTo(k), upTo(k - 1), upTo(k + 1), upTo(k + 4), upTo(k + 16), upTo(k + 16)[k:], upTo(api.MaxID + 1)[api.MaxID-k:],
		slices.Concat(noIDs(), upTo(k), noIDs()),
	}
	dice := rand.New(rand.NewSource(int64(k)))
	for n := range 3 * k {
		var some []int
		for range n {
			some = append(some, []int{dice.Intn(20), dice.Intn(api.MaxID + 1), dice.Intn(2*api.MaxID) - api.MaxID}[dice.Intn(3)])
		}
		all = append(all, some)
	}
	return all
}

// cases calls with each code and each list of IDs, and three of the seeds by turns.
func cases(call func(p api.Params, seed uint32, ids []int)) {
	all, at := seeds(), 0
	for _, p := range codes() {
		for _, ids := range lists(p.K) {
			for range 3 {
				call(p, all[at%len(all)], ids)
				at++
			}
			at++
		}
	}
}

// outside are the numbers that a parameter whose greatest value is most may not
// have. Cut to 8, 16 or 32 bits, or without their sign, many of them could be.
func outside(most int) []int {
	list := []int{
		0, 25, 60, 63, 64, 65, 127, 255, 256, 65536, math.MaxInt32, math.MaxInt32 + 1, 1 << 32, 1 << 62,
		math.MaxInt - 1, math.MaxInt, math.MinInt32, math.MinInt32 - 1, math.MinInt, -1 << 32, -1 << 62,
	}
	for _, n := range []int{1, 2, most} {
		list = append(list, -n, most+n, 256+n, 1<<16+n, 1<<32+n, n-256, n-1<<16, n-1<<32, n+math.MinInt)
	}
	return list
}

// wrong are parameters one of which is wrong, or all three.
func wrong() []api.Params {
	list := []api.Params{{}, {K: -1, H: -1, Size: -1}, {K: 17, H: 5, Size: 25}, {K: math.MaxInt, H: math.MaxInt, Size: math.MaxInt}}
	for _, k := range outside(api.MaxK) {
		list = append(list, api.Params{K: k, H: 1, Size: 1}, api.Params{K: k, H: 4, Size: 24})
	}
	for _, h := range outside(api.MaxH) {
		list = append(list, api.Params{K: 1, H: h, Size: 1}, api.Params{K: 16, H: h, Size: 24})
	}
	for _, size := range outside(api.MaxSize) {
		list = append(list, api.Params{K: 1, H: 1, Size: size}, api.Params{K: 16, H: 4, Size: size})
	}
	return list
}

// P10.1: Matrix

func TestMatrixWrittenOut(t *testing.T) {
	for _, c := range []struct {
		k, h int
		seed uint32
		ids  []int
		want [][]byte
	}{
		{1, 1, 0, nil, [][]byte{{3, 1}}},
		{1, 1, 0, []int{0}, [][]byte{{3, 1}, {1, 1}}},
		{1, 1, 1, []int{0, 0, 0}, [][]byte{{3, 1}, {0, 1}, {0, 1}, {0, 1}}},
		{2, 1, 7, []int{0, 1, 2, 3}, [][]byte{{3, 5, 1}, {1, 0, 0}, {0, 1, 0}, {0, 1, 0}, {0, 0, 1}}},
		{2, 1, 7, []int{3, 1, 0}, [][]byte{{3, 5, 1}, {0, 0, 1}, {0, 1, 0}, {1, 0, 0}}},
		{3, 2, 5, []int{-1, 65536, -65536, 1 << 32}, [][]byte{{3, 5, 15, 1, 0}, {5, 17, 85, 0, 1}}},
		{3, 2, 5, []int{4, -1, 0, 65536, 65535, 4}, [][]byte{
			{3, 5, 15, 1, 0}, {5, 17, 85, 0, 1}, {0, 0, 1, 0, 0}, {0, 0, 0, 1, 0}, {0, 0, 0, 1, 0}, {0, 0, 1, 0, 0},
		}},
	} {
		p := api.Params{K: c.k, H: c.h, Size: 5}
		if got := system.Matrix(p, c.seed, c.ids); !same(got, c.want) {
			t.Errorf("Matrix(%v, %d, %v) = %v, want %v", p, c.seed, c.ids, got, c.want)
		}
	}
}

func TestMatrixByTheChapter(t *testing.T) {
	cases(func(p api.Params, seed uint32, ids []int) {
		want := wanted(p, seed, ids)
		if got := system.Matrix(p, seed, ids); !same(got, want) {
			t.Fatalf("Matrix(%v, %d, %v) = %v, want %v", p, seed, ids, got, want)
		}
	})
}

func TestMatrixWithoutIDsIsThePrecode(t *testing.T) {
	for _, p := range codes() {
		for _, seed := range seeds() {
			for _, ids := range [][]int{nil, {}, {-1}, {api.MaxID + 1}, noIDs()} {
				if got := system.Matrix(p, seed, ids); len(got) != p.H || !same(got, pre.Rows(p)) {
					t.Fatalf("Matrix(%v, %d, %v) = %v, want %v", p, seed, ids, got, pre.Rows(p))
				}
			}
		}
	}
}

// At the ends of the IDs, one step further there is no row.
func TestMatrixAtTheEndsOfTheIDs(t *testing.T) {
	for _, p := range codes() {
		for _, seed := range seeds() {
			for id, rows := range map[int]int{-1: 0, 0: 1, 65535: 1, 65536: 0} {
				got := system.Matrix(p, seed, []int{id})
				if len(got) != p.H+rows || !same(got, wanted(p, seed, []int{id})) {
					t.Fatalf("Matrix(%v, %d, [%d]) has %d rows, want %d: %v", p, seed, id, len(got), p.H+rows, got)
				}
			}
		}
	}
}

func TestMatrixOfEachNumberThatIsNoID(t *testing.T) {
	for _, p := range few() {
		for _, id := range noIDs() {
			if got := system.Matrix(p, 9, []int{3, id, 5}); !same(got, wanted(p, 9, []int{3, 5})) {
				t.Fatalf("Matrix(%v, 9, [3 %d 5]) = %v", p, id, got)
			}
			if rank := system.Rank(p, 9, []int{id, id}); rank != p.H {
				t.Fatalf("Rank(%v, 9, [%d %d]) = %d, want %d", p, id, id, rank, p.H)
			}
		}
	}
}

func TestOfEachID(t *testing.T) {
	p, ids := api.Params{K: 9, H: 2, Size: 4}, upTo(api.MaxID+1)
	if !same(system.Matrix(p, 3, ids), wanted(p, 3, ids)) {
		t.Error("Matrix of all IDs is not the precode's rows and that of each ID")
	}
	if rank := system.Rank(p, 3, ids); rank != 11 || !system.Full(p, 3, ids) {
		t.Errorf("Rank of all IDs = %d, Full %v", rank, system.Full(p, 3, ids))
	}
}

func TestSizePlaysNoPart(t *testing.T) {
	for _, p := range few() {
		for _, ids := range lists(p.K) {
			matrix, rank := system.Matrix(p, 8, ids), system.Rank(p, 8, ids)
			full, right := system.Full(p, 8, ids), system.Right(p, 8)
			for size := 1; size <= api.MaxSize; size++ {
				p.Size = size
				if !same(system.Matrix(p, 8, ids), matrix) || system.Rank(p, 8, ids) != rank {
					t.Fatalf("Matrix or Rank of %v, 8, %v is not that of another Size", p, ids)
				}
				if system.Full(p, 8, ids) != full || system.Right(p, 8) != right {
					t.Fatalf("Full or Right of %v, 8, %v is not that of another Size", p, ids)
				}
			}
		}
	}
}

// P10.1: Rank, Full and Right

func TestRankWrittenOut(t *testing.T) {
	for _, c := range []struct {
		k, h int
		seed uint32
		ids  []int
		want int
	}{
		{1, 1, 0, nil, 1}, {1, 1, 0, []int{0}, 2}, {1, 1, 0, []int{0, 1, 2}, 2}, {1, 4, 0, nil, 4}, {1, 4, 0, []int{9}, 5},
		{2, 1, 7, []int{1, 2}, 2}, {2, 1, 7, []int{0, 1}, 3}, {2, 1, 7, []int{0, 1, 3}, 3},
		{3, 2, 5, []int{4}, 3}, {3, 2, 5, []int{4, 4, 4}, 3}, {3, 2, 5, []int{0, 65535}, 3}, {3, 2, 5, []int{4, -1, 0, 65536}, 4},
		{16, 4, 0, upTo(15), 19}, {16, 4, 0, upTo(16), 20}, {16, 4, 0, upTo(17), 20},
	} {
		p := api.Params{K: c.k, H: c.h, Size: 5}
		if got := system.Rank(p, c.seed, c.ids); got != c.want {
			t.Errorf("Rank(%v, %d, %v) = %d, want %d", p, c.seed, c.ids, got, c.want)
		}
		if got := system.Full(p, c.seed, c.ids); got != (c.want == c.k+c.h) {
			t.Errorf("Full(%v, %d, %v) = %v, but the rank is %d", p, c.seed, c.ids, got, c.want)
		}
	}
}

func TestRankByTheChapter(t *testing.T) {
	f := gf.New()
	cases(func(p api.Params, seed uint32, ids []int) {
		want := mat.Rank(f, wanted(p, seed, ids))
		if got := system.Rank(p, seed, ids); got != want {
			t.Fatalf("Rank(%v, %d, %v) = %d, want %d", p, seed, ids, got, want)
		}
	})
}

func TestRankWithoutPackageMat(t *testing.T) {
	for _, p := range codes() {
		for i, ids := range lists(p.K) {
			seed := uint32(i) * 999999937
			want := rankOf(wanted(p, seed, ids))
			if got := system.Rank(p, seed, ids); got != want {
				t.Fatalf("Rank(%v, %d, %v) = %d, want %d", p, seed, ids, got, want)
			}
		}
	}
}

// The precode rows alone have the rank H, each ID adds at most 1, and there are no
// more than K + H.
func TestRankGrowsByOneAtMost(t *testing.T) {
	for _, p := range codes() {
		for _, seed := range seeds() {
			last := system.Rank(p, seed, nil)
			if last != p.H {
				t.Fatalf("Rank(%v, %d, none) = %d, want %d", p, seed, last, p.H)
			}
			for n := 1; n <= p.K+16; n++ {
				rank := system.Rank(p, seed, upTo(n))
				if rank < last || rank > last+1 || rank > p.K+p.H {
					t.Fatalf("Rank(%v, %d, %v) = %d, and one ID less has %d", p, seed, upTo(n), rank, last)
				}
				last = rank
			}
		}
	}
}

func TestFullByTheChapter(t *testing.T) {
	f := gf.New()
	seen := map[bool]int{}
	cases(func(p api.Params, seed uint32, ids []int) {
		want := mat.Rank(f, wanted(p, seed, ids)) == pre.Cols(p)
		if got := system.Full(p, seed, ids); got != want {
			t.Fatalf("Full(%v, %d, %v) = %v, want %v", p, seed, ids, got, want)
		}
		seen[want]++
	})
	if seen[true] < 1000 || seen[false] < 1000 {
		t.Error("Full was hardly asked for both:", seen)
	}
}

// Fewer than K IDs are never enough, however often each one is listed.
func TestFullOfTooFew(t *testing.T) {
	for _, p := range codes() {
		for _, seed := range seeds() {
			for n := range p.K {
				if ids := slices.Repeat(upTo(n), 4); system.Full(p, seed, append(ids, noIDs()...)) {
					t.Fatalf("Full(%v, %d, %v) is true", p, seed, ids)
				}
			}
		}
	}
}

func TestRightWrittenOut(t *testing.T) {
	for _, c := range []struct {
		k, h int
		want []uint32 // of the seeds 0 to 9 these are right
	}{
		{1, 1, []uint32{0, 1, 2, 3, 4, 5, 6, 7, 8, 9}},
		{8, 2, []uint32{2, 3, 9}},
		{16, 1, []uint32{1, 4, 9}},
	} {
		p := api.Params{K: c.k, H: c.h, Size: 6}
		for seed := range uint32(10) {
			if got, want := system.Right(p, seed), slices.Contains(c.want, seed); got != want {
				t.Errorf("Right(%v, %d) = %v, want %v", p, seed, got, want)
			}
		}
	}
}

func TestRightByTheChapter(t *testing.T) {
	seen := map[bool]int{}
	for _, p := range codes() {
		for seed := range uint32(60) {
			seed *= 71582789 // from 0 to nearly 2^32
			want := system.Full(p, seed, upTo(p.K))
			if rankOf(wanted(p, seed, upTo(p.K))) == p.K+p.H != want {
				t.Fatalf("Full(%v, %d, %v) = %v", p, seed, upTo(p.K), want)
			}
			if got := system.Right(p, seed); got != want {
				t.Fatalf("Right(%v, %d) = %v, want %v", p, seed, got, want)
			}
			seen[want]++
		}
	}
	if seen[true] < 500 || seen[false] < 500 {
		t.Error("Right was hardly asked for both:", seen)
	}
}

// P10.1: of parameters that are not valid there is no matrix, and it is not full,
// although its rank and pre.Cols are both 0.

func TestOfWrongParameters(t *testing.T) {
	for _, p := range wrong() {
		for _, seed := range seeds() {
			for _, ids := range [][]int{nil, {0}, upTo(30), {-1, 4, api.MaxID + 1}, noIDs()} {
				if got := system.Matrix(p, seed, ids); len(got) != 0 {
					t.Fatalf("Matrix(%v, %d, %v) = %v, want none", p, seed, ids, got)
				}
				if got := system.Rank(p, seed, ids); got != 0 {
					t.Fatalf("Rank(%v, %d, %v) = %d, want 0", p, seed, ids, got)
				}
				if system.Full(p, seed, ids) {
					t.Fatalf("Full(%v, %d, %v) is true", p, seed, ids)
				}
			}
			if system.Right(p, seed) {
				t.Fatalf("Right(%v, %d) is true", p, seed)
			}
		}
	}
}

// P10.2: the order of the IDs, and repeats of them

// likewise holds Rank and Full of one list against those of another.
func likewise(t *testing.T, p api.Params, seed uint32, ids, others []int) {
	t.Helper()
	if a, b := system.Rank(p, seed, ids), system.Rank(p, seed, others); a != b {
		t.Fatalf("Rank(%v, %d, %v) = %d, but of %v it is %d", p, seed, ids, a, others, b)
	}
	if a, b := system.Full(p, seed, ids), system.Full(p, seed, others); a != b {
		t.Fatalf("Full(%v, %d, %v) = %v, but of %v it is %v", p, seed, ids, a, others, b)
	}
}

func TestTheOrderPlaysNoPart(t *testing.T) {
	dice := rand.New(rand.NewSource(1))
	for _, p := range codes() {
		for i, ids := range lists(p.K) {
			seed, others := dice.Uint32(), slices.Clone(ids)
			slices.Sort(others)
			likewise(t, p, seed, ids, others)
			slices.Reverse(others)
			likewise(t, p, seed, ids, others)
			for range 3 + i%2 {
				dice.Shuffle(len(others), func(a, b int) { others[a], others[b] = others[b], others[a] })
				likewise(t, p, seed, ids, others)
			}
		}
	}
}

// arranged calls with each arrangement of the IDs from the index at on.
func arranged(ids []int, at int, call func()) {
	if at == len(ids) {
		call()
		return
	}
	for i := at; i < len(ids); i++ {
		ids[at], ids[i] = ids[i], ids[at]
		arranged(ids, at+1, call)
		ids[at], ids[i] = ids[i], ids[at]
	}
}

func TestEachOrder(t *testing.T) {
	for _, c := range []struct {
		p   api.Params
		ids []int
	}{
		{api.Params{K: 3, H: 2, Size: 1}, []int{4, 0, 65535, 4, -1}},
		{api.Params{K: 4, H: 1, Size: 3}, []int{0, 1, 2, 3, 4, 5}},
		{api.Params{K: 5, H: 4, Size: 2}, []int{9, 65536, 2, 9, 700, 0}},
	} {
		for _, seed := range []uint32{0, 5, math.MaxUint32} {
			want, others := rankOf(wanted(c.p, seed, c.ids)), slices.Clone(c.ids)
			arranged(others, 0, func() {
				if got := system.Rank(c.p, seed, others); got != want {
					t.Fatalf("Rank(%v, %d, %v) = %d, want %d", c.p, seed, others, got, want)
				}
			})
		}
	}
}

func TestRepeatsPlayNoPart(t *testing.T) {
	dice := rand.New(rand.NewSource(2))
	for _, p := range codes() {
		for _, ids := range lists(p.K) {
			seed := dice.Uint32()
			once := slices.Clone(ids)
			slices.Sort(once)
			likewise(t, p, seed, ids, slices.Compact(once))
			likewise(t, p, seed, ids, slices.Repeat(ids, 3))
			more := slices.Clone(ids)
			for i, id := range ids {
				more = slices.Insert(more, dice.Intn(len(more)+1), slices.Repeat([]int{id}, i%4)...)
			}
			likewise(t, p, seed, ids, more)
		}
	}
}

func TestWhatIsNoIDPlaysNoPart(t *testing.T) {
	dice := rand.New(rand.NewSource(3))
	for _, p := range few() {
		for _, ids := range lists(p.K) {
			more := slices.Clone(ids)
			for _, id := range noIDs() {
				more = slices.Insert(more, dice.Intn(len(more)+1), id)
			}
			likewise(t, p, dice.Uint32(), ids, more)
		}
	}
}

// R3

// all calls each function with p, seed and ids.
func all(p api.Params, seed uint32, ids []int) [][]byte {
	system.Rank(p, seed, ids)
	system.Full(p, seed, ids)
	system.Right(p, seed)
	return system.Matrix(p, seed, ids)
}

// The IDs that are passed stand in the midst of a longer list, so that a write
// beside them, into their spare capacity too, is found.
func TestIDsAreNotModified(t *testing.T) {
	for _, p := range append(codes(), wrong()...) {
		for _, ids := range lists(max(1, min(p.K, api.MaxK))) {
			whole := slices.Concat([]int{7, -7, 70000}, ids, []int{9, 9, -9, 90000, 3})
			before := slices.Clone(whole)
			overwrite(all(p, 6, whole[3:3+len(ids)]))
			if !slices.Equal(whole, before) {
				t.Fatalf("of %v the IDs %v became %v", p, before, whole)
			}
		}
	}
}

func spoil(r []byte) {
	r = r[:cap(r)]
	for i := range r {
		r[i] ^= 0x5a
	}
}

// overwrite changes every element of every row, and every row of the list, with
// what they could be lengthened by.
func overwrite(list [][]byte) {
	list = list[:cap(list)]
	for i, r := range list {
		spoil(r)
		list[i] = []byte{77}
	}
}

func TestMatrixIsNewMemory(t *testing.T) {
	for _, p := range few() {
		for _, seed := range seeds() {
			for _, ids := range lists(p.K) {
				want := wanted(p, seed, ids)
				passed := slices.Clone(ids)
				first, second := system.Matrix(p, seed, passed), system.Matrix(p, seed, passed)
				overwrite(first)
				for i := range passed {
					passed[i] = 4
				}
				if !same(second, want) {
					t.Fatalf("what was written into one Matrix(%v, %d, %v) is in another: %v", p, seed, ids, second)
				}
				if third := system.Matrix(p, seed, ids); !same(third, want) {
					t.Fatalf("what was written into one Matrix(%v, %d, %v) is in a later one: %v", p, seed, ids, third)
				}
				if rank := system.Rank(p, seed, ids); rank != mat.Rank(nil, want) {
					t.Fatalf("what was written into one Matrix(%v, %d, %v) is in a later Rank: %d", p, seed, ids, rank)
				}
			}
		}
	}
}

// The rows of an ID that is listed several times are equal, and yet apart.
func TestRowsShareNothing(t *testing.T) {
	for _, p := range codes() {
		for i, ids := range lists(p.K) {
			rows := system.Matrix(p, uint32(i), ids)
			want := wanted(p, uint32(i), ids)
			for j, r := range rows {
				if !bytes.Equal(r, want[j]) {
					t.Fatalf("writing into a row of Matrix(%v, %d, %v) changes row %d", p, i, ids, j)
				}
				spoil(r)
				spoil(append(r, 1))
			}
		}
	}
}

// R5

func TestTheSameAgain(t *testing.T) {
	for _, p := range few() {
		for _, ids := range lists(p.K) {
			matrix, rank := system.Matrix(p, 44, ids), system.Rank(p, 44, ids)
			full, right := system.Full(p, 44, ids), system.Right(p, 44)
			for _, other := range []api.Params{{}, {K: 3, H: 2, Size: 1}, {K: 16, H: 4, Size: 24}, p} {
				all(other, 45, ids)
				all(other, 44, []int{5, 1, 1})
				if !same(system.Matrix(p, 44, ids), matrix) || system.Rank(p, 44, ids) != rank {
					t.Fatalf("Matrix or Rank of %v, 44, %v is another one after other calls", p, ids)
				}
				if system.Full(p, 44, ids) != full || system.Right(p, 44) != right {
					t.Fatalf("Full or Right of %v, 44, %v is another one after other calls", p, ids)
				}
			}
		}
	}
}

// The same list of IDs may be passed by several at once.
func TestManyAtOnce(t *testing.T) {
	p := api.Params{K: 11, H: 3, Size: 7}
	ids := lists(p.K)
	var wait sync.WaitGroup
	for range 8 {
		wait.Go(func() {
			for _, list := range ids {
				want := wanted(p, 31, list)
				rank := rankOf(want)
				got := system.Matrix(p, 31, list)
				if !same(got, want) || system.Rank(p, 31, list) != rank || system.Full(p, 31, list) != (rank == 14) {
					t.Errorf("another answer to the same question: %v", list)
					return
				}
				overwrite(got)
			}
		})
	}
	wait.Wait()
}

func Example() {
	p := api.Params{K: 2, H: 1, Size: 24}
	fmt.Println(system.Matrix(p, 7, nil))
	fmt.Println(system.Matrix(p, 7, []int{1, 2, -1}))
	fmt.Println(system.Rank(p, 7, []int{1, 2}), system.Full(p, 7, []int{1, 2}))
	fmt.Println(system.Rank(p, 7, []int{1, 0}), system.Full(p, 7, []int{1, 0}), system.Right(p, 7))
	// Output:
	// [[3 5 1]]
	// [[3 5 1] [0 1 0] [0 1 0]]
	// 2 false
	// 3 true true
}
