package decode_test

import (
	"bytes"
	"fmt"
	"math"
	"math/rand"
	"slices"
	"sync"
	"testing"

	"wellspring/api"
	"wellspring/decode"
	"wellspring/encode"
	"wellspring/inact"
	"wellspring/lt"
	"wellspring/peel"
	"wellspring/pre"
	"wellspring/system"
)

// answer is what one call of Block returned.
type answer struct {
	data []byte
	e    api.Errno
}

func ask(p api.Params, seed uint32, l []api.Symbol) answer {
	data, e := decode.Block(p, seed, l)
	return answer{data, e}
}

func askDecoder(d *decode.Decoder) answer {
	data, e := d.Block()
	return answer{data, e}
}

func same(a, b answer) bool { return a.e == b.e && bytes.Equal(a.data, b.data) }

// times is a product in the field by the definition of chapter 1, bit by bit,
// without package gf.
func times(a, b byte) byte {
	product := byte(0)
	for ; b > 0; b >>= 1 {
		if b&1 == 1 {
			product ^= a
		}
		if a >= 128 {
			a = a<<1 ^ 0x1b
		} else {
			a <<= 1
		}
	}
	return product
}

// inverses are made by trying all products out.
var inverses = func() (list [256]byte) {
	for a := 1; a < 256; a++ {
		for b := 1; b < 256; b++ {
			if times(byte(a), byte(b)) == 1 {
				list[a] = byte(b)
			}
		}
	}
	return list
}()

// plus adds c times b to a in place.
func plus(a []byte, c byte, b []byte) {
	for i := range a {
		a[i] ^= times(c, b[i])
	}
}

// space is rows of which each begins somewhere else, each with what is on its right
// side. They are added one by one; what a row becomes behind those before it stands
// at the place where it then begins.
type space struct {
	cols  int
	begun map[int][]byte
	clash bool
}

// add adds a row: cols weights, and what their sum is.
func (s *space) add(weights, sum []byte) {
	r := slices.Concat(weights, sum)
	for c := range s.cols {
		if r[c] == 0 {
			continue
		}
		if b := s.begun[c]; b != nil {
			plus(r, r[c], b)
			continue
		}
		unit := make([]byte, len(r))
		plus(unit, inverses[r[c]], r)
		s.begun[c] = unit
		return
	}
	s.clash = s.clash || slices.Max(append(r, 0)) > 0
}

// values are the values of the columns, of a space with a row for each.
func (s *space) values() [][]byte {
	list := make([][]byte, s.cols)
	for c := s.cols - 1; c >= 0; c-- {
		list[c] = bytes.Clone(s.begun[c][s.cols:])
		for k := c + 1; k < s.cols; k++ {
			plus(list[c], s.begun[c][k], list[k])
		}
	}
	return list
}

// spanned is the space of the precode's rows and of those of the symbols.
func spanned(p api.Params, seed uint32, l []api.Symbol) *space {
	s := &space{cols: pre.Cols(p), begun: map[int][]byte{}}
	for _, r := range pre.Rows(p) {
		s.add(r, make([]byte, p.Size))
	}
	for _, q := range l {
		s.add(lt.Row(p, seed, q.ID), q.Data)
	}
	return s
}

// wanted is what Block returns by the chapter's words. It solves all rows as one
// matrix, without packages gf, row, mat, span, peel and inact.
func wanted(p api.Params, seed uint32, l []api.Symbol) answer {
	if !pre.May(p) {
		return answer{e: api.ErrArg}
	}
	for _, s := range l {
		if s.ID < 0 || s.ID > api.MaxID || len(s.Data) != p.Size {
			return answer{e: api.ErrArg}
		}
	}
	s := spanned(p, seed, l)
	switch {
	case len(s.begun) < s.cols:
		return answer{e: api.ErrRank}
	case s.clash:
		return answer{e: api.ErrClash}
	}
	return answer{data: source(p, seed, s.values())}
}

// summed is the sum of the symbols at the columns.
func summed(cols []int, mid [][]byte, size int) []byte {
	sum := make([]byte, size)
	for _, c := range cols {
		plus(sum, 1, mid[c])
	}
	return sum
}

// source is the block, of its intermediate symbols.
func source(p api.Params, seed uint32, mid [][]byte) []byte {
	var data []byte
	for id := range p.K {
		data = append(data, summed(lt.Cols(p, seed, id), mid, p.Size)...)
	}
	return data
}

// code is a block with its intermediate symbols.
type code struct {
	p    api.Params
	seed uint32
	mid  [][]byte
}

// made is a code whose first K intermediate symbols are any bytes, and of which the
// others are what the precode makes of these. It needs no right seed.
func made(dice *rand.Rand, p api.Params, seed uint32) code {
	c := code{p: p, seed: seed}
	for range p.K {
		c.mid = append(c.mid, some(dice, p.Size))
	}
	for _, r := range pre.Rows(p) {
		sum := make([]byte, p.Size)
		for j := range p.K {
			plus(sum, r[j], c.mid[j])
		}
		c.mid = append(c.mid, sum)
	}
	return c
}

// symbols are those of the IDs.
func (c code) symbols(ids ...int) []api.Symbol {
	var l []api.Symbol
	for _, id := range ids {
		l = append(l, api.Symbol{ID: id, Data: summed(lt.Cols(c.p, c.seed, id), c.mid, c.p.Size)})
	}
	return l
}

func (c code) block() []byte { return source(c.p, c.seed, c.mid) }

// some are bytes, 0 every other time.
func some(dice *rand.Rand, n int) []byte {
	r := make([]byte, n)
	for i := range r {
		r[i] = byte(dice.Intn(256) * dice.Intn(2))
	}
	return r
}

// upTo are the numbers from a on below b.
func upTo(a, b int) []int {
	var list []int
	for ; a < b; a++ {
		list = append(list, a)
	}
	return list
}

// copied is the list with memory of its own.
func copied(l []api.Symbol) []api.Symbol {
	var c []api.Symbol
	for _, s := range l {
		c = append(c, api.Symbol{ID: s.ID, Data: bytes.Clone(s.Data)})
	}
	return c
}

// ids are the IDs of symbols.
func ids(l []api.Symbol) []int {
	var list []int
	for _, s := range l {
		list = append(list, s.ID)
	}
	return list
}

// shuffled are the elements of both lists in another order.
func shuffled[T any](dice *rand.Rand, a, b []T) []T {
	l := slices.Concat(a, b)
	dice.Shuffle(len(l), func(i, j int) { l[i], l[j] = l[j], l[i] })
	return l
}

// several are the elements of a list, each of them from once to four times.
func several[T any](dice *rand.Rand, l []T) []T {
	var more []T
	for _, x := range l {
		more = append(more, slices.Repeat([]T{x}, dice.Intn(4))...)
	}
	return shuffled(dice, l, more)
}

// codes are valid parameters of each K and H, and, among them, of each Size.
func codes() []api.Params {
	var list []api.Params
	for k := 1; k <= api.MaxK; k++ {
		for h := 1; h <= api.MaxH; h++ {
			list = append(list, api.Params{K: k, H: h, Size: (7*k+h)%api.MaxSize + 1})
		}
	}
	return append(list,
		api.Params{K: 1, H: 1, Size: 1}, api.Params{K: 1, H: 1, Size: 24}, api.Params{K: 1, H: 4, Size: 24},
		api.Params{K: 16, H: 1, Size: 1}, api.Params{K: 16, H: 4, Size: 1}, api.Params{K: 16, H: 4, Size: 24})
}

// few are those of the least, the greatest, and some between.
func few() []api.Params {
	var list []api.Params
	for _, k := range []int{1, 2, 9, api.MaxK} {
		for _, h := range []int{1, 3, api.MaxH} {
			list = append(list, api.Params{K: k, H: h, Size: k + h})
		}
	}
	return list
}

// seeds are ordinary ones and edges, and so many that each code has right ones
// among them.
func seeds() []uint32 {
	list := []uint32{256, 65536, 123456789, 2654435761, math.MaxInt32, 1 << 31, math.MaxUint32 - 1, math.MaxUint32}
	for seed := range uint32(40) {
		list = append(list, seed)
	}
	return list
}

// sorted are the seeds that are right for p, at most n of them, and as many that
// are not (of K = 1 each seed is right).
func sorted(p api.Params, n int) (right, bad []uint32) {
	for _, seed := range seeds() {
		if system.Right(p, seed) {
			right = append(right, seed)
		} else {
			bad = append(bad, seed)
		}
	}
	return right[:min(n, len(right))], bad[:min(n, len(bad))]
}

// anyIDs are n IDs from 0 to most.
func anyIDs(dice *rand.Rand, n, most int) []int {
	var list []int
	for len(list) < n {
		list = append(list, dice.Intn(most+1))
	}
	return list
}

// lists are IDs: source symbols alone, others alone, and both, from none to many
// more than it takes, some of them several times.
func lists(dice *rand.Rand, p api.Params) [][]int {
	n := pre.Cols(p)
	all := [][]int{nil, upTo(0, p.K), upTo(0, p.K-1), upTo(1, p.K), upTo(0, n), upTo(p.K, n), upTo(p.K, 3*n), {0, api.MaxID}}
	for _, many := range []int{1, p.K - 1, p.K, p.K + 2, n, 2 * n} {
		all = append(all, anyIDs(dice, many, api.MaxID), anyIDs(dice, many, n), dice.Perm(3 * n)[:many])
	}
	for i := range all {
		if i%2 == 0 {
			all = append(all, several(dice, all[i]))
		}
	}
	return all
}

// cases calls with symbols of codes with right seeds and with others. All of them
// are symbols of the code.
func cases(call func(dice *rand.Rand, c code, l []api.Symbol)) { casesOf(codes(), call) }

// fewCases calls with those of few codes.
func fewCases(call func(dice *rand.Rand, c code, l []api.Symbol)) { casesOf(few(), call) }

func casesOf(params []api.Params, call func(dice *rand.Rand, c code, l []api.Symbol)) {
	dice := rand.New(rand.NewSource(14))
	for _, p := range params {
		right, bad := sorted(p, 1)
		for _, seed := range slices.Concat(right, bad) {
			c := made(dice, p, seed)
			for _, list := range lists(dice, p) {
				call(dice, c, c.symbols(list...))
			}
		}
	}
}

// changed are the symbols with one byte of one of them changed.
func changed(dice *rand.Rand, l []api.Symbol) []api.Symbol {
	l = copied(l)
	data := l[dice.Intn(len(l))].Data
	data[dice.Intn(len(data))] ^= byte(1 + dice.Intn(255))
	return l
}

// outside are the numbers that a parameter whose greatest value is most may not
// have. Cut to 8, 16 or 32 bits, or without their sign, many of them could be.
func outside(most int) []int {
	list := []int{
		0, 25, 60, 63, 64, 65, 127, 255, 256, 65536, math.MaxInt32, math.MaxInt32 + 1, 1 << 32, 1 << 62,
		math.MaxInt - 1, math.MaxInt, math.MinInt32, math.MinInt32 - 1, math.MinInt, -1 << 32, -1 << 62,
	}
	for _, n := range []int{1, 2, most} {
		list = append(list, -n, most+n, 256+n, 1<<16+n, 1<<32+n, n-256, n-1<<16, n-1<<32, n+math.MinInt)
	}
	return list
}

// wrong are parameters one of which is wrong, or all three.
func wrong() []api.Params {
	list := []api.Params{
		{}, {K: -1, H: -1, Size: -1}, {K: -4, H: 1, Size: 6}, {K: 4, H: 1, Size: -6}, {K: 17, H: 5, Size: 25},
		{K: 1 << 32, H: 1, Size: 1 << 32}, {K: math.MaxInt, H: math.MaxInt, Size: math.MaxInt}, {K: math.MinInt, H: 1, Size: 2},
	}
	for _, k := range outside(api.MaxK) {
		list = append(list, api.Params{K: k, H: 1, Size: 1}, api.Params{K: k, H: 4, Size: 24})
	}
	for _, h := range outside(api.MaxH) {
		list = append(list, api.Params{K: 1, H: h, Size: 1}, api.Params{K: 16, H: h, Size: 24})
	}
	for _, size := range outside(api.MaxSize) {
		list = append(list, api.Params{K: 1, H: 1, Size: size}, api.Params{K: 16, H: 4, Size: size})
	}
	return list
}

// noIDs are numbers below 0 and beyond MaxID. Cut to 8, 16 or 32 bits, or without
// their sign, many of them would be IDs.
func noIDs() []int {
	list := []int{
		-1, api.MaxID + 1, math.MinInt, math.MinInt + 1, math.MinInt32, math.MinInt32 - 1, -1 << 62, -1 << 32,
		math.MaxInt, math.MaxInt - 1, math.MaxInt32, math.MaxInt32 + 1, math.MaxUint32, 1 << 40, 1 << 62, 100000,
	}
	for _, n := range []int{0, 1, 2, 5, 15, 255, 65535} {
		list = append(list, -n-1, 65536+n, 1<<17+n, 1<<31+n, 1<<32+n, n-1<<17, n-1<<32, n+1+math.MinInt)
	}
	return list
}

// wrongData are what no symbol of Size bytes has.
func wrongData(size int) [][]byte {
	list := [][]byte{nil, {}}
	for _, n := range []int{1, size - 1, size + 1, 2 * size, size + 24, size + 256, size + 65536, 23, 24, 25, 64} {
		if n != size {
			list = append(list, bytes.Repeat([]byte{9}, n))
		}
	}
	return list
}

// answers holds what Block returns against what is wanted.
func answers(t *testing.T, p api.Params, seed uint32, l []api.Symbol, want answer) {
	t.Helper()
	if got := ask(p, seed, l); !same(got, want) {
		t.Fatalf("Block(%v, %d, %v) = %v, want %v", p, seed, l, got, want)
	}
}

// P14.1

func TestBlockWrittenOut(t *testing.T) {
	sym := func(id int, data ...byte) api.Symbol { return api.Symbol{ID: id, Data: data} }
	ok := func(data ...byte) answer { return answer{data: data} }
	rank, clash, arg := answer{e: api.ErrRank}, answer{e: api.ErrClash}, answer{e: api.ErrArg}
	// The precode's row is 3 1; those of 0 to 4 are 1 1, 1 1, 0 1, 0 1, 1 0.
	one := api.Params{K: 1, H: 1, Size: 1}
	// The precode's row is 3 5 1; those of 0 to 4 are 1 0 0, 0 1 0, 0 1 0, 0 0 1 and
	// 1 0 1, which is that of 6 too; that of 7 is that of 3.
	two := api.Params{K: 2, H: 1, Size: 2}
	for i, c := range []struct {
		p    api.Params
		seed uint32
		l    []api.Symbol
		want answer
	}{
		{one, 0, nil, rank}, // the chapter's example
		{one, 0, []api.Symbol{sym(0, 2)}, ok(2)},
		{one, 0, []api.Symbol{sym(1, 2)}, ok(2)},
		{one, 0, []api.Symbol{sym(2, 3)}, ok(2)},
		{one, 0, []api.Symbol{sym(4, 1)}, ok(2)},
		{one, 0, []api.Symbol{sym(4, 1), sym(3, 3), sym(0, 2), sym(4, 1)}, ok(2)},
		{one, 0, []api.Symbol{sym(4, 1), sym(2, 4)}, clash},
		{one, 0, []api.Symbol{sym(0, 2), sym(0, 3)}, clash},
		{one, 0, []api.Symbol{sym(0, 2), sym(1, 3)}, clash},
		{one, 0, []api.Symbol{sym(0, 2), sym(-1, 3)}, arg},
		{one, 0, []api.Symbol{sym(0, 2), sym(65536, 2)}, arg},
		{one, 0, []api.Symbol{sym(0, 2), sym(1)}, arg},
		{one, 0, []api.Symbol{sym(0, 2, 0)}, arg},
		{two, 7, nil, rank},
		{two, 7, []api.Symbol{sym(0, 1, 2)}, rank},
		{two, 7, []api.Symbol{sym(0, 1, 2), sym(1, 4, 8)}, ok(1, 2, 4, 8)},
		{two, 7, []api.Symbol{sym(2, 4, 8), sym(0, 1, 2)}, ok(1, 2, 4, 8)},
		{two, 7, []api.Symbol{sym(3, 23, 46), sym(0, 1, 2)}, ok(1, 2, 4, 8)},
		{two, 7, []api.Symbol{sym(3, 23, 46), sym(1, 4, 8)}, ok(1, 2, 4, 8)},
		{two, 7, []api.Symbol{sym(4, 22, 44), sym(1, 4, 8)}, ok(1, 2, 4, 8)},
		{two, 7, []api.Symbol{sym(4, 22, 44), sym(6, 22, 44), sym(3, 23, 46)}, ok(1, 2, 4, 8)},
		{two, 7, []api.Symbol{sym(3, 23, 46), sym(7, 23, 46)}, rank},
		{two, 7, []api.Symbol{sym(3, 23, 46), sym(7, 23, 47)}, rank},
		{two, 7, []api.Symbol{sym(0, 1, 2), sym(0, 1, 3), sym(0, 1, 4)}, rank},
		{two, 7, []api.Symbol{sym(0, 1, 2), sym(1, 4, 8), sym(3, 23, 46)}, ok(1, 2, 4, 8)},
		{two, 7, []api.Symbol{sym(0, 1, 2), sym(1, 4, 8), sym(3, 23, 47)}, clash},
		{two, 7, []api.Symbol{sym(0, 1, 2), sym(1, 4, 8), sym(2, 5, 8)}, clash},
		{two, 7, []api.Symbol{sym(1, 4, 8), sym(4, 22, 44), sym(6, 22, 45)}, clash},
		{two, 7, []api.Symbol{sym(0, 1, 2), sym(1, 4, 8), sym(3, 23)}, arg},
		{api.Params{K: 2, H: 1}, 7, []api.Symbol{sym(0), sym(1)}, arg},
	} {
		if got := ask(c.p, c.seed, c.l); !same(got, c.want) {
			t.Errorf("%d: Block(%v, %d, %v) = %v, want %v", i, c.p, c.seed, c.l, got, c.want)
		}
	}
}

// tally is how often something came up.
type tally map[string]int

func (t tally) atLeast(test *testing.T, n int, names ...string) {
	test.Helper()
	for _, name := range names {
		if t[name] < n {
			test.Errorf("%s: only %d times", name, t[name])
		}
	}
}

// kind is by which way symbols of full rank are decoded.
func kind(p api.Params, seed uint32, l []api.Symbol) string {
	var eqs []api.Eq
	for _, s := range l {
		eqs = append(eqs, api.Eq{Cols: lt.Cols(p, seed, s.ID), Data: s.Data})
	}
	known, _, rest, e := peel.Peel(pre.Cols(p), eqs)
	if e != api.OK {
		return "peeling contradicts"
	}
	var rows [][]int
	for _, q := range rest {
		rows = append(rows, q.Cols)
	}
	plan, _ := inact.Plan(pre.Cols(p), rows)
	late := 0
	for _, c := range plan.Dead {
		if !known[c] {
			late++
		}
	}
	switch {
	case late == 0:
		return "peeling tells all"
	case len(plan.Steps) == 0:
		return "only the precode tells more"
	case len(plan.Left) == 0:
		return "some put off, no equation left"
	case late > p.H:
		return "more put off than precode rows"
	}
	return "some put off"
}

func TestBlockByTheChapter(t *testing.T) {
	seen := tally{}
	cases(func(dice *rand.Rand, c code, l []api.Symbol) {
		want := wanted(c.p, c.seed, l)
		answers(t, c.p, c.seed, l, want)
		if want.e == api.OK {
			seen[kind(c.p, c.seed, l)]++
			if !bytes.Equal(want.data, c.block()) {
				t.Fatalf("Block(%v, %d, %v) is %v, not the block, %v", c.p, c.seed, l, want.data, c.block())
			}
			return
		}
		if want.e != api.ErrRank {
			t.Fatalf("symbols of a block give error %d", want.e)
		}
		seen["rank too low"]++
		if len(l) >= pre.Cols(c.p) {
			seen["rank too low of many"]++
		}
	})
	seen.atLeast(t, 100, "peeling tells all", "only the precode tells more", "some put off",
		"some put off, no equation left", "more put off than precode rows", "rank too low", "rank too low of many")
}

// Where the rank is too low, contradictions are ErrRank; elsewhere they are
// ErrClash, and where each symbol is needed there are none.
func TestOneByteChanged(t *testing.T) {
	seen := tally{}
	cases(func(dice *rand.Rand, c code, l []api.Symbol) {
		if len(l) == 0 {
			return
		}
		for range 2 {
			l := changed(dice, l)
			want := wanted(c.p, c.seed, l)
			answers(t, c.p, c.seed, l, want)
			switch want.e {
			case api.ErrRank:
				if spanned(c.p, c.seed, l).clash {
					seen["rank too low, and a contradiction"]++
				}
			case api.ErrClash:
				seen["a contradiction: "+kind(c.p, c.seed, l)]++
			case api.OK:
				seen["another block"]++
			}
		}
	})
	seen.atLeast(t, 50, "rank too low, and a contradiction", "a contradiction: peeling contradicts",
		"a contradiction: peeling tells all", "a contradiction: only the precode tells more", "a contradiction: some put off",
		"a contradiction: more put off than precode rows", "another block")
}

// Each byte of each symbol counts, its each bit too.
func TestEachByteChanged(t *testing.T) {
	dice := rand.New(rand.NewSource(3))
	for _, p := range codes() {
		right, _ := sorted(p, 1)
		c := made(dice, p, right[0])
		l := c.symbols(several(dice, upTo(0, 2*pre.Cols(p)))...)
		answers(t, p, c.seed, l, answer{data: c.block()})
		for i := range l {
			at, bit := dice.Intn(p.Size), byte(1)<<dice.Intn(8)
			if i < p.Size {
				at = i
			}
			l[i].Data[at] ^= bit
			answers(t, p, c.seed, l, wanted(p, c.seed, l))
			l[i].Data[at] ^= bit
		}
	}
}

// The same ID twice, with unlike Data: in whatever order, and wherever they stand.
func TestTheSameIDWithUnlikeData(t *testing.T) {
	cases(func(dice *rand.Rand, c code, l []api.Symbol) {
		if len(l) == 0 {
			return
		}
		want := answer{e: api.ErrClash}
		if !system.Full(c.p, c.seed, ids(l)) {
			want.e = api.ErrRank
		}
		more := []api.Symbol{copied(l)[dice.Intn(len(l))]}
		more[0].Data[dice.Intn(c.p.Size)] ^= byte(1 + dice.Intn(255))
		answers(t, c.p, c.seed, slices.Concat(l, more), want)
		answers(t, c.p, c.seed, slices.Concat(more, l), want)
		answers(t, c.p, c.seed, shuffled(dice, l, more), want)
		// Each of the two several times.
		answers(t, c.p, c.seed, several(dice, slices.Concat(l, more)), want)
	})
}

// Two contradictions that make up for one another in a sum are contradictions.
func TestTwoThatAreUnlike(t *testing.T) {
	fewCases(func(dice *rand.Rand, c code, l []api.Symbol) {
		if len(l) < 2 {
			return
		}
		twice := slices.Concat(copied(l), l)
		a, b := dice.Perm(len(l))[0], dice.Intn(len(l))
		twice[a].Data[0] ^= 7
		twice[b].Data[0] ^= 7
		answers(t, c.p, c.seed, twice, wanted(c.p, c.seed, twice))
	})
}

// Bytes that are no symbols of any block, mostly.
func TestAnyData(t *testing.T) {
	seen := map[api.Errno]int{}
	cases(func(dice *rand.Rand, c code, l []api.Symbol) {
		l = copied(l)
		for i := range l {
			l[i].Data = some(dice, c.p.Size)
		}
		want := wanted(c.p, c.seed, l)
		answers(t, c.p, c.seed, l, want)
		seen[want.e]++
	})
	if seen[api.OK] < 100 || seen[api.ErrRank] < 100 || seen[api.ErrClash] < 100 {
		t.Error("hardly any answers of some kind:", seen)
	}
}

func TestZeros(t *testing.T) {
	for _, p := range codes() {
		right, _ := sorted(p, 1)
		var l []api.Symbol
		for id := range p.K {
			l = append(l, api.Symbol{ID: id, Data: make([]byte, p.Size)})
		}
		answers(t, p, right[0], l, answer{data: make([]byte, p.K*p.Size)})
	}
}

// Each set of the first IDs of small codes, as it is and with its last one changed.
func TestEachSetOfSmallCodes(t *testing.T) {
	dice := rand.New(rand.NewSource(5))
	for _, p := range []api.Params{{K: 1, H: 1, Size: 1}, {K: 1, H: 4, Size: 2}, {K: 2, H: 1, Size: 1}, {K: 3, H: 2, Size: 3}, {K: 4, H: 1, Size: 1}} {
		for seed := range uint32(8) {
			c := made(dice, p, seed)
			for mask := range 1 << 8 {
				var list []int
				for id := range 8 {
					if mask>>id&1 == 1 {
						list = append(list, id)
					}
				}
				l := c.symbols(list...)
				answers(t, p, seed, l, wanted(p, seed, l))
				if len(l) > 0 {
					l[len(l)-1].Data[0] ^= 0x81
					answers(t, p, seed, l, wanted(p, seed, l))
				}
			}
		}
	}
}

func TestEachSize(t *testing.T) {
	dice := rand.New(rand.NewSource(6))
	for size := 1; size <= api.MaxSize; size++ {
		for _, p := range []api.Params{{K: 1, H: 1, Size: size}, {K: 5, H: 3, Size: size}, {K: api.MaxK, H: api.MaxH, Size: size}} {
			right, bad := sorted(p, 1)
			for _, seed := range slices.Concat(right, bad) {
				c := made(dice, p, seed)
				l := c.symbols(anyIDs(dice, 60, api.MaxID)...)
				answers(t, p, seed, l, answer{data: c.block()})
				l = changed(dice, l)
				answers(t, p, seed, l, wanted(p, seed, l))
			}
		}
	}
}

// Each ID is one, and its symbol counts.
func TestEachID(t *testing.T) {
	dice := rand.New(rand.NewSource(7))
	p := api.Params{K: 3, H: 1, Size: 2}
	right, _ := sorted(p, 1)
	c := made(dice, p, right[0])
	few := c.symbols(0, 1)
	for id := 0; id <= api.MaxID; id += 1 + dice.Intn(20) {
		l := append(slices.Clip(few), c.symbols(id)...)
		answers(t, p, c.seed, l, wanted(p, c.seed, l))
	}
	l := append(slices.Clip(few), c.symbols(api.MaxID, 2)...)
	answers(t, p, c.seed, l, answer{data: c.block()})
	l[2].Data[1] ^= 1
	answers(t, p, c.seed, l, answer{e: api.ErrClash})
}

// Many symbols: all of a code.
func TestAllSymbols(t *testing.T) {
	dice := rand.New(rand.NewSource(8))
	p := api.Params{K: 6, H: 2, Size: 3}
	_, bad := sorted(p, 1)
	c := made(dice, p, bad[0])
	l := c.symbols(dice.Perm(api.MaxID + 1)...)
	answers(t, p, c.seed, l, answer{data: c.block()})
	l[40000].Data[2] ^= 16
	if got := ask(p, c.seed, l); !same(got, answer{e: api.ErrClash}) {
		t.Error("one of all symbols changed:", got)
	}
}

// P14.1: ErrArg

func TestOfWrongParameters(t *testing.T) {
	dice := rand.New(rand.NewSource(9))
	for _, p := range wrong() {
		none, size := []byte(nil), max(0, p.Size)
		if size < 1000 {
			none = make([]byte, size)
		}
		for _, l := range [][]api.Symbol{
			nil, {}, {{ID: 0, Data: none}}, {{ID: 0, Data: none}, {ID: 1, Data: none}, {ID: 2, Data: none}},
			{{ID: 0, Data: some(dice, 1)}}, {{ID: 0, Data: some(dice, 24)}}, {{ID: -1, Data: none}}, {{ID: 65536}},
		} {
			answers(t, p, uint32(dice.Intn(10)), l, answer{e: api.ErrArg})
		}
		// As many as it would take, if each K and H did.
		var l []api.Symbol
		for id := range 60 {
			l = append(l, api.Symbol{ID: id, Data: none})
		}
		answers(t, p, 1, l, answer{e: api.ErrArg})
	}
}

// A wrong symbol stands anywhere among those that are enough, too few, or
// contradict one another.
func TestOfWrongSymbols(t *testing.T) {
	dice := rand.New(rand.NewSource(10))
	for _, p := range few() {
		right, bad := sorted(p, 1)
		for _, seed := range slices.Concat(right, bad) {
			c := made(dice, p, seed)
			enough := c.symbols(upTo(0, 2*pre.Cols(p))...)
			var bad []api.Symbol
			for _, id := range noIDs() {
				bad = append(bad, api.Symbol{ID: id, Data: some(dice, p.Size)})
			}
			for _, data := range wrongData(p.Size) {
				bad = append(bad, api.Symbol{ID: dice.Intn(9), Data: data}, api.Symbol{ID: dice.Intn(api.MaxID + 1), Data: data})
			}
			for _, data := range wrongData(p.Size) {
				bad = append(bad, api.Symbol{ID: -1, Data: data}, api.Symbol{ID: 65536 + dice.Intn(9), Data: data})
			}
			for _, l := range [][]api.Symbol{nil, enough[:1], enough[:p.K], enough, changed(dice, enough), shuffled(dice, enough, changed(dice, enough))} {
				for _, s := range bad {
					answers(t, p, seed, slices.Insert(slices.Clone(l), dice.Intn(len(l)+1), s), answer{e: api.ErrArg})
				}
				for range 10 { // two and more at once
					some := bad[:dice.Intn(len(bad))+1]
					answers(t, p, seed, shuffled(dice, l, some), answer{e: api.ErrArg})
				}
				answers(t, p, seed, append(slices.Clip(l), bad[0]), answer{e: api.ErrArg})
				answers(t, p, seed, append(bad[:1:1], l...), answer{e: api.ErrArg})
			}
		}
	}
}

// Data goes by its length, not by what it could be lengthened to.
func TestDataGoesByTheLength(t *testing.T) {
	p := api.Params{K: 2, H: 1, Size: 2}
	whole := []byte{1, 2, 4, 8, 99}
	l := []api.Symbol{{ID: 0, Data: whole[:2]}, {ID: 1, Data: whole[2:4]}}
	answers(t, p, 7, l, answer{data: []byte{1, 2, 4, 8}})
	for _, data := range [][]byte{whole[2:2], whole[2:3], whole[2:5], whole} {
		answers(t, p, 7, []api.Symbol{l[0], {ID: 1, Data: data}}, answer{e: api.ErrArg})
	}
}

// The edges: one step before each of them there is no error.
func TestOfTheEdges(t *testing.T) {
	dice := rand.New(rand.NewSource(11))
	for _, p := range []api.Params{{K: 1, H: 1, Size: 1}, {K: 16, H: 1, Size: 1}, {K: 1, H: 4, Size: 1}, {K: 1, H: 1, Size: 24}, {K: 16, H: 4, Size: 24}} {
		right, bad := sorted(p, 3)
		for _, seed := range slices.Concat(right, bad) {
			c := made(dice, p, seed)
			l := c.symbols(slices.Concat([]int{0, api.MaxID}, anyIDs(dice, 80, api.MaxID))...)
			answers(t, p, seed, l, answer{data: c.block()})
			for _, q := range []api.Params{{K: p.K - 16, H: p.H, Size: p.Size}, {K: p.K + 16, H: p.H, Size: p.Size}, {K: p.K, H: p.H + 4, Size: p.Size}, {K: p.K, H: p.H - 4, Size: p.Size}, {K: p.K, H: p.H, Size: p.Size + 1}, {K: p.K, H: p.H, Size: p.Size - 1}} {
				answers(t, q, seed, l, answer{e: api.ErrArg})
			}
		}
	}
}

// P14.2

// follows holds what a Decoder answers against the symbols that were added to it.
func follows(t *testing.T, d *decode.Decoder, p api.Params, seed uint32, added []api.Symbol) {
	t.Helper()
	for range 2 {
		need := pre.Cols(p) - system.Rank(p, seed, ids(added))
		if got := d.Need(); got != need || need < 0 {
			t.Fatalf("Need of (%v, %d) after %v is %d, want %d", p, seed, added, got, need)
		}
		if got, want := askDecoder(d), ask(p, seed, added); !same(got, want) {
			t.Fatalf("Block of (%v, %d) after %v is %v, want %v", p, seed, added, got, want)
		}
	}
}

func TestNewOfEachCode(t *testing.T) {
	for k := 1; k <= api.MaxK; k++ {
		for h := 1; h <= api.MaxH; h++ {
			for size := 1; size <= api.MaxSize; size++ {
				d := decode.New(api.Params{K: k, H: h, Size: size}, uint32(k*h))
				if d == nil {
					t.Fatalf("New of %d, %d, %d is nil", k, h, size)
				}
				if got := askDecoder(d); d.Need() != k || !same(got, answer{e: api.ErrRank}) {
					t.Fatalf("New of %d, %d, %d: Need %d, Block %v", k, h, size, d.Need(), got)
				}
			}
		}
	}
}

// nothing holds that a Decoder answers zero values, and Block ErrArg.
func nothing(t *testing.T, d *decode.Decoder) {
	t.Helper()
	for range 2 {
		for _, id := range append(noIDs(), 0, 1, 2, api.MaxID) {
			for _, data := range [][]byte{nil, {}, {1}, {1, 2}, make([]byte, api.MaxSize)} {
				if d.Add(id, data) {
					t.Fatalf("Add(%d, %v) is true", id, data)
				}
			}
		}
		if got := askDecoder(d); d.Need() != 0 || !same(got, answer{e: api.ErrArg}) {
			t.Fatalf("Need is %d, Block %v", d.Need(), got)
		}
	}
}

func TestNewOfWrongParameters(t *testing.T) {
	for _, p := range wrong() {
		for _, seed := range []uint32{0, 7, math.MaxUint32} {
			d := decode.New(p, seed)
			if d != nil {
				t.Fatalf("New(%v, %d) is not nil", p, seed)
			}
		}
	}
	nothing(t, decode.New(api.Params{}, 0))
}

func TestOfANilDecoder(t *testing.T) {
	nothing(t, nil)
}

// A Decoder that New did not make is not spoken of, yet nothing panics (R1).
func TestOfADecoderThatNewDidNotMake(t *testing.T) {
	nothing(t, new(decode.Decoder))
}

// Symbols that may be are added one by one, with those that may not between them.
func TestAddOneByOne(t *testing.T) {
	seen := tally{}
	dice := rand.New(rand.NewSource(15))
	for _, p := range append(few(), api.Params{K: 5, H: 2, Size: 24}, api.Params{K: 16, H: 4, Size: 24}, api.Params{K: 12, H: 2, Size: 1}) {
		right, bad := sorted(p, 2)
		for _, seed := range slices.Concat(right, bad) {
			c := made(dice, p, seed)
			d := decode.New(p, seed)
			var added []api.Symbol
			// A contradiction comes early, late, or never.
			wrongFrom := []int{0, p.K, 2 * p.K, 1000}[dice.Intn(4)]
			for i, s := range c.symbols(several(dice, slices.Concat(upTo(0, p.K+2), anyIDs(dice, p.K+6, api.MaxID)))...) {
				data := s.Data
				if i >= wrongFrom && dice.Intn(3) == 0 {
					data[dice.Intn(p.Size)] ^= byte(1 + dice.Intn(255))
				}
				refuses(t, dice, d, p, s)
				before := d.Need()
				if !d.Add(s.ID, data) {
					t.Fatalf("Add(%d, %v) of (%v, %d) is false", s.ID, data, p, seed)
				}
				added = append(added, s)
				follows(t, d, p, seed, added)
				seen[fmt.Sprint("Need less by ", before-d.Need())]++
				seen[fmt.Sprint("error ", askDecoder(d).e)]++
			}
			if d.Need() == 0 {
				seen["Need is 0"]++
			}
		}
	}
	seen.atLeast(t, 30, "Need less by 0", "Need less by 1", "error 0", "error 9", "error 10", "Need is 0")
}

// refuses holds that nothing is added where Add is false.
func refuses(t *testing.T, dice *rand.Rand, d *decode.Decoder, p api.Params, s api.Symbol) {
	t.Helper()
	need, block := d.Need(), askDecoder(d)
	bad, data := noIDs(), wrongData(p.Size)
	for range 3 {
		id, other := bad[dice.Intn(len(bad))], data[dice.Intn(len(data))]
		if d.Add(id, s.Data) || d.Add(s.ID, other) || d.Add(id, other) {
			t.Fatalf("Add of (%d, %v), (%d, %v) or (%d, %v) is true, for %v", id, s.Data, s.ID, other, id, other, p)
		}
	}
	if got := askDecoder(d); d.Need() != need || !same(got, block) {
		t.Fatalf("Add that is false changes Need %d, Block %v to %d, %v", need, block, d.Need(), got)
	}
}

func TestAddOfWhatMayNotBe(t *testing.T) {
	dice := rand.New(rand.NewSource(16))
	for _, p := range few() {
		for _, c := range []code{made(dice, p, 1), made(dice, p, 2)} {
			d := decode.New(p, c.seed)
			l := c.symbols(upTo(0, 40)...)
			for _, added := range [][]api.Symbol{nil, l[:p.K], l} {
				for _, s := range added {
					d.Add(s.ID, s.Data)
				}
				for _, id := range noIDs() {
					if d.Add(id, l[0].Data) {
						t.Fatalf("Add(%d, ..) is true, for %v", id, p)
					}
				}
				for _, data := range wrongData(p.Size) {
					if d.Add(dice.Intn(40), data) || d.Add(-1, data) {
						t.Fatalf("Add of %d bytes is true, for %v", len(data), p)
					}
				}
				follows(t, d, p, c.seed, added)
			}
			for _, id := range []int{0, api.MaxID} { // one step before it may be
				if !d.Add(id, l[0].Data) {
					t.Fatalf("Add(%d, ..) is false, for %v", id, p)
				}
			}
		}
	}
}

// All of a list first, and then the questions.
func TestAddOfAll(t *testing.T) {
	cases(func(dice *rand.Rand, c code, l []api.Symbol) {
		if len(l) > 0 && dice.Intn(2) == 0 {
			l = changed(dice, l)
		}
		d := decode.New(c.p, c.seed)
		for _, s := range l {
			if !d.Add(s.ID, s.Data) {
				t.Fatalf("Add(%d, %v) of (%v, %d) is false", s.ID, s.Data, c.p, c.seed)
			}
		}
		if got, want := askDecoder(d), wanted(c.p, c.seed, l); !same(got, want) {
			t.Fatalf("Block of (%v, %d) after %v is %v, want %v", c.p, c.seed, l, got, want)
		}
		if got, want := d.Need(), pre.Cols(c.p)-len(spanned(c.p, c.seed, l).begun); got != want {
			t.Fatalf("Need of (%v, %d) after %v is %d, want %d", c.p, c.seed, l, got, want)
		}
		follows(t, d, c.p, c.seed, l)
	})
}

func TestDecoderWrittenOut(t *testing.T) {
	d := decode.New(api.Params{K: 2, H: 1, Size: 2}, 7)
	for i, c := range []struct {
		id    int
		data  []byte
		added bool
		need  int
		want  answer
	}{
		{-1, []byte{1, 2}, false, 2, answer{e: api.ErrRank}},
		{3, []byte{23, 46}, true, 1, answer{e: api.ErrRank}},
		{7, []byte{23, 46}, true, 1, answer{e: api.ErrRank}}, // its row is that of 3
		{0, []byte{1}, false, 1, answer{e: api.ErrRank}},
		{0, []byte{1, 2}, true, 0, answer{data: []byte{1, 2, 4, 8}}},
		{0, []byte{1, 2}, true, 0, answer{data: []byte{1, 2, 4, 8}}},
		{65536, []byte{0, 0}, false, 0, answer{data: []byte{1, 2, 4, 8}}},
		{1, []byte{4, 8}, true, 0, answer{data: []byte{1, 2, 4, 8}}},
		{1, []byte{4, 9}, true, 0, answer{e: api.ErrClash}},
		{1, []byte{4, 8}, true, 0, answer{e: api.ErrClash}},
		{1, []byte{4, 8, 0}, false, 0, answer{e: api.ErrClash}},
	} {
		if got := d.Add(c.id, c.data); got != c.added {
			t.Fatalf("%d: Add(%d, %v) is %v", i, c.id, c.data, got)
		}
		if got := askDecoder(d); d.Need() != c.need || !same(got, c.want) {
			t.Fatalf("%d: Need is %d, Block %v, want %d, %v", i, d.Need(), got, c.need, c.want)
		}
	}
}

// Each symbol may be the one that contradicts, when it is the last, when others
// have the full rank already, and when it was added before.
func TestAddOfAContradiction(t *testing.T) {
	dice := rand.New(rand.NewSource(17))
	for _, p := range few() {
		c := made(dice, p, 3)
		l := c.symbols(shuffled(dice, upTo(0, 30), anyIDs(dice, 30, api.MaxID))...)
		for i := range l {
			for _, bad := range [][]api.Symbol{l[i : i+1], l[:1]} {
				d := decode.New(p, c.seed)
				added := slices.Concat(l[:i+1], changed(dice, bad), l[i+1:])
				for _, s := range added {
					d.Add(s.ID, s.Data)
				}
				follows(t, d, p, c.seed, added)
				if got := askDecoder(d); got.e != api.ErrClash {
					t.Fatalf("Block of (%v, %d) after %v is %v, want ErrClash", p, c.seed, added, got)
				}
			}
		}
	}
}

// So many symbols, and contradictions, that what is new is little of it.
func TestAddOfMany(t *testing.T) {
	dice := rand.New(rand.NewSource(18))
	p := api.Params{K: 7, H: 3, Size: 5}
	c := made(dice, p, 2)
	d := decode.New(p, 2)
	var added []api.Symbol
	for i, s := range c.symbols(anyIDs(dice, 6000, api.MaxID)...) {
		if i > 4000 {
			s.Data = some(dice, p.Size)
		}
		d.Add(s.ID, s.Data)
		added = append(added, s)
		if i%500 == 0 {
			follows(t, d, p, 2, added)
		}
	}
	follows(t, d, p, 2, added)
	if got := askDecoder(d); got.e != api.ErrClash {
		t.Error("Block after any data is", got)
	}
}

// P14.3

// The block comes back exactly if the rank is K + H, which the test works out by
// itself, and else there is ErrRank.
func TestExactlyByTheRank(t *testing.T) {
	seen := map[bool]int{}
	cases(func(dice *rand.Rand, c code, l []api.Symbol) {
		want := answer{e: api.ErrRank}
		full := len(spanned(c.p, c.seed, l).begun) == c.p.K+c.p.H
		if full {
			want = answer{data: c.block()}
		}
		seen[full]++
		answers(t, c.p, c.seed, l, want)
		answers(t, c.p, c.seed, shuffled(dice, l, nil), want)
		answers(t, c.p, c.seed, several(dice, l), want)
		answers(t, c.p, c.seed, slices.Concat(l, l, l), want)
		slices.Reverse(l)
		answers(t, c.p, c.seed, l, want)
	})
	if seen[true] < 1000 || seen[false] < 1000 {
		t.Error("hardly any lists of both kinds:", seen)
	}
}

// One symbol less than it takes, each of them: the rank is one too low.
func TestOneSymbolTooFew(t *testing.T) {
	dice := rand.New(rand.NewSource(19))
	for _, p := range codes() {
		right, bad := sorted(p, 1)
		for _, seed := range slices.Concat(right, bad) {
			c := made(dice, p, seed)
			var l []api.Symbol
			for _, s := range c.symbols(dice.Perm(400)...) {
				if more := append(slices.Clip(l), s); system.Rank(p, seed, ids(more)) > system.Rank(p, seed, ids(l)) {
					l = more
				}
			}
			if len(l) != p.K { // the precode's rows are the others
				t.Fatalf("of (%v, %d) it takes %d symbols", p, seed, len(l))
			}
			answers(t, p, seed, l, answer{data: c.block()})
			for i := range l {
				fewer := slices.Delete(slices.Clone(l), i, i+1)
				answers(t, p, seed, fewer, answer{e: api.ErrRank})
				answers(t, p, seed, several(dice, slices.Concat(fewer, fewer)), answer{e: api.ErrRank})
			}
		}
	}
}

func permutations(l []api.Symbol, k int, call func(l []api.Symbol)) {
	if k == len(l) {
		call(l)
		return
	}
	for i := k; i < len(l); i++ {
		l[k], l[i] = l[i], l[k]
		permutations(l, k+1, call)
		l[k], l[i] = l[i], l[k]
	}
}

func TestInEachOrder(t *testing.T) {
	dice := rand.New(rand.NewSource(20))
	for _, p := range []api.Params{{K: 2, H: 1, Size: 1}, {K: 3, H: 2, Size: 2}, {K: 4, H: 3, Size: 1}} {
		for seed := range uint32(6) {
			c := made(dice, p, seed)
			for _, l := range [][]api.Symbol{c.symbols(0, 1, 2, 3, 4), c.symbols(5, 6, 7, 8, 9), changed(dice, c.symbols(0, 2, 4, 6, 8))} {
				want := wanted(p, seed, l)
				permutations(l, 0, func(l []api.Symbol) { answers(t, p, seed, l, want) })
			}
		}
	}
}

// K source symbols alone bring the block back that was encoded with a right seed,
// and K - 1 of them and none besides do not.
func TestSourceSymbolsAlone(t *testing.T) {
	dice := rand.New(rand.NewSource(21))
	for _, p := range codes() {
		right, _ := sorted(p, 4)
		for _, seed := range right {
			data := some(dice, p.K*p.Size)
			var l []api.Symbol
			for id := range p.K {
				l = append(l, api.Symbol{ID: id, Data: data[id*p.Size : (id+1)*p.Size]})
			}
			answers(t, p, seed, l, answer{data: data})
			answers(t, p, seed, several(dice, l), answer{data: data})
			for i := range l {
				fewer := slices.Delete(slices.Clone(l), i, i+1)
				answers(t, p, seed, fewer, answer{e: api.ErrRank})
				answers(t, p, seed, several(dice, fewer), answer{e: api.ErrRank})
			}
		}
	}
}

// What package encode makes of data comes back, of whatever symbols are left.
func TestWhatWasEncoded(t *testing.T) {
	dice := rand.New(rand.NewSource(22))
	seen := map[bool]int{}
	for _, p := range codes() {
		right, _ := sorted(p, 3)
		for _, seed := range right {
			data := some(dice, p.K*p.Size)
			b, e := encode.New(p, seed, data)
			if e != api.OK {
				t.Fatalf("no block of (%v, %d): %d", p, seed, e)
			}
			for _, list := range lists(dice, p) {
				var l []api.Symbol
				d := decode.New(p, seed)
				for _, id := range list {
					l = append(l, api.Symbol{ID: id, Data: b.Symbol(id)})
					d.Add(id, b.Symbol(id))
				}
				want := answer{data: data}
				if full := system.Full(p, seed, list); !full {
					want = answer{e: api.ErrRank}
				}
				seen[want.e == api.OK]++
				answers(t, p, seed, l, want)
				if got := askDecoder(d); !same(got, want) {
					t.Fatalf("Block of (%v, %d) after %v is %v, want %v", p, seed, l, got, want)
				}
			}
		}
	}
	if seen[true] < 1000 || seen[false] < 1000 {
		t.Error("hardly any lists of both kinds:", seen)
	}
}

// R3

// mar changes every byte, with what the list could be lengthened by.
func mar(r []byte) {
	r = r[:cap(r)]
	for i := range r {
		r[i] ^= 0x5a
	}
}

// untouched reports whether two symbols are the same piece of the same memory.
func untouched(a, b api.Symbol) bool {
	return a.ID == b.ID && len(a.Data) == len(b.Data) && cap(a.Data) == cap(b.Data) &&
		(cap(a.Data) == 0 || &a.Data[:1][0] == &b.Data[:1][0])
}

// lent are the symbols of a list in the midst of a longer one, with their Data in
// the midst of a longer one too, so that a write beside them, into their spare
// capacity too, is found.
type lent struct {
	all, oldAll     []api.Symbol
	bytes, oldBytes []byte
}

func lend(l []api.Symbol) (lent, []api.Symbol) {
	whole := []byte{9, 9, 9}
	for _, s := range l {
		whole = slices.Concat(whole, s.Data, []byte{0xa5, 7})
	}
	all := make([]api.Symbol, len(l)+4)
	at := 3
	for i, s := range l {
		all[i+2] = api.Symbol{ID: s.ID, Data: whole[at : at+len(s.Data)]}
		at += len(s.Data) + 2
	}
	return lent{all, slices.Clone(all), whole, bytes.Clone(whole)}, all[2 : 2+len(l)]
}

func (x lent) changed() bool {
	return !bytes.Equal(x.bytes, x.oldBytes) || !slices.EqualFunc(x.all, x.oldAll, untouched)
}

// variants are the symbols as they are, contradictory ones, and wrong ones.
func variants(dice *rand.Rand, l []api.Symbol) [][]api.Symbol {
	list := [][]api.Symbol{l, append(slices.Clip(l), api.Symbol{ID: -1}), append([]api.Symbol{{ID: 3, Data: []byte{}}}, l...)}
	if len(l) > 0 {
		list = append(list, changed(dice, l))
	}
	return list
}

func TestNothingPassedIsModified(t *testing.T) {
	fewCases(func(dice *rand.Rand, c code, l []api.Symbol) {
		for _, list := range variants(dice, l) {
			x, passed := lend(list)
			mar(ask(c.p, c.seed, passed).data)
			d := decode.New(c.p, c.seed)
			for _, s := range passed {
				d.Add(s.ID, s.Data)
			}
			d.Need()
			mar(askDecoder(d).data)
			if x.changed() {
				t.Fatalf("Block or Add of (%v, %d) and %v, or a write into what Block returned, has changed what was passed", c.p, c.seed, list)
			}
		}
	})
}

// Data is written into as soon as it was added. A Decoder that had kept it would
// answer otherwise then.
func TestNothingPassedIsKept(t *testing.T) {
	fewCases(func(dice *rand.Rand, c code, l []api.Symbol) {
		if len(l) > 0 && dice.Intn(3) == 0 {
			l = changed(dice, l)
		}
		want := wanted(c.p, c.seed, l)
		passed, again := copied(l), copied(l)
		got := ask(c.p, c.seed, passed)
		early, late := decode.New(c.p, c.seed), decode.New(c.p, c.seed)
		for i, s := range passed {
			early.Add(s.ID, s.Data)
			early.Block()
			mar(s.Data)
			passed[i] = api.Symbol{ID: 1, Data: []byte{77}}
			late.Add(again[i].ID, again[i].Data)
		}
		for _, s := range again {
			mar(s.Data)
		}
		if first, last := askDecoder(early), askDecoder(late); !same(got, want) || !same(first, want) || !same(last, want) {
			t.Fatalf("what was written into %v is in what Block of (%v, %d) returns: %v, %v, %v, want %v", l, c.p, c.seed, got, first, last, want)
		}
		follows(t, early, c.p, c.seed, l)
	})
}

// One piece of memory is used for one symbol after the other.
func TestAddOfOnePieceOfMemory(t *testing.T) {
	fewCases(func(dice *rand.Rand, c code, l []api.Symbol) {
		d := decode.New(c.p, c.seed)
		data := make([]byte, c.p.Size)
		for _, s := range l {
			copy(data, s.Data)
			d.Add(s.ID, data)
		}
		clear(data)
		if got, want := askDecoder(d), wanted(c.p, c.seed, l); !same(got, want) {
			t.Fatalf("Block of (%v, %d) after %v is %v, want %v", c.p, c.seed, l, got, want)
		}
	})
}

func TestResultsAreNewMemory(t *testing.T) {
	fewCases(func(dice *rand.Rand, c code, l []api.Symbol) {
		want := wanted(c.p, c.seed, l)
		d := decode.New(c.p, c.seed)
		for _, s := range l {
			d.Add(s.ID, s.Data)
		}
		first, second := ask(c.p, c.seed, l), ask(c.p, c.seed, l)
		third, fourth := askDecoder(d), askDecoder(d)
		mar(first.data)
		mar(third.data)
		if !same(second, want) || !same(fourth, want) {
			t.Fatalf("what was written into one answer of (%v, %d) and %v is in another: %v, %v", c.p, c.seed, l, second, fourth)
		}
		mar(second.data)
		mar(fourth.data)
		if got, theirs := ask(c.p, c.seed, l), askDecoder(d); !same(got, want) || !same(theirs, want) {
			t.Fatalf("what was written into the answers of (%v, %d) and %v is in the next: %v, %v", c.p, c.seed, l, got, theirs)
		}
	})
}

// R5 and R6

// Questions, and what is refused, change nothing: a Decoder that is asked again and
// again answers as one that is asked at the end.
func TestAskingChangesNothing(t *testing.T) {
	fewCases(func(dice *rand.Rand, c code, l []api.Symbol) {
		if len(l) > 0 && dice.Intn(3) == 0 {
			l = changed(dice, l)
		}
		asked, quiet := decode.New(c.p, c.seed), decode.New(c.p, c.seed)
		for _, s := range l {
			asked.Need()
			asked.Block()
			asked.Add(-1, s.Data)
			asked.Add(s.ID, s.Data[1:])
			asked.Add(s.ID, s.Data)
			quiet.Add(s.ID, s.Data)
		}
		asked.Block()
		asked.Need()
		if a, b := askDecoder(asked), askDecoder(quiet); asked.Need() != quiet.Need() || !same(a, b) {
			t.Fatalf("of (%v, %d) and %v a Decoder that was asked answers %d, %v, another one %d, %v",
				c.p, c.seed, l, asked.Need(), a, quiet.Need(), b)
		}
	})
}

// Decoders have nothing in common, though they get symbols by turns.
func TestDecodersAreApart(t *testing.T) {
	dice := rand.New(rand.NewSource(23))
	for _, p := range few() {
		a, b := made(dice, p, 4), made(dice, p, 4)
		d, e := decode.New(p, 4), decode.New(p, 4)
		other := decode.New(api.Params{K: p.K, H: p.H, Size: 3}, 5)
		list := anyIDs(dice, 50, api.MaxID)
		for _, id := range list {
			d.Add(id, a.symbols(id)[0].Data)
			e.Add(id, b.symbols(id)[0].Data)
			other.Add(id, []byte{1, 2, 3})
		}
		if got, theirs := askDecoder(d), askDecoder(e); !bytes.Equal(got.data, a.block()) || !bytes.Equal(theirs.data, b.block()) {
			t.Fatalf("of %v one Decoder answers %v, another one %v", p, got, theirs)
		}
	}
}

func TestTheSameAgain(t *testing.T) {
	fewCases(func(dice *rand.Rand, c code, l []api.Symbol) {
		want := ask(c.p, c.seed, l)
		decode.Block(api.Params{}, 4, l)
		decode.Block(c.p, c.seed+1, l)
		decode.Block(c.p, c.seed, l[:len(l)/2])
		if got := ask(c.p, c.seed, l); !same(got, want) {
			t.Fatalf("Block(%v, %d, %v) = %v after other calls, %v before", c.p, c.seed, l, got, want)
		}
	})
}

// One list of symbols, and one Decoder that is only asked, may be used by several
// at once.
func TestManyAtOnce(t *testing.T) {
	dice := rand.New(rand.NewSource(24))
	p := api.Params{K: 12, H: 3, Size: 7}
	c := made(dice, p, 6)
	l := c.symbols(anyIDs(dice, 40, api.MaxID)...)
	want := answer{data: c.block()}
	one := decode.New(p, 6)
	for _, s := range l {
		one.Add(s.ID, s.Data)
	}
	var wait sync.WaitGroup
	for range 8 {
		wait.Go(func() {
			for range 10 {
				own := decode.New(p, 6)
				for _, s := range l {
					own.Add(s.ID, s.Data)
				}
				for _, got := range []answer{ask(p, 6, l), askDecoder(own), askDecoder(one)} {
					if !same(got, want) || one.Need() != 0 || own.Need() != 0 {
						t.Error("another answer to the same question")
						return
					}
					mar(got.data)
				}
			}
		})
	}
	wait.Wait()
}

func Example() {
	p := api.Params{K: 2, H: 1, Size: 3}
	b, _ := encode.New(p, 7, []byte("abcdef"))
	d := decode.New(p, 7)
	fmt.Println(d.Need(), d.Add(3, b.Symbol(3)), d.Need(), d.Add(4, b.Symbol(4)), d.Need())
	data, e := d.Block()
	fmt.Printf("%s %v\n", data, e == api.OK)
	data, e = decode.Block(p, 7, []api.Symbol{{ID: 0, Data: []byte("abc")}, {ID: 2, Data: []byte("def")}})
	fmt.Printf("%s %v\n", data, e == api.OK)
	_, none := decode.Block(p, 7, nil)
	_, clash := decode.Block(p, 7, []api.Symbol{{ID: 1, Data: []byte("def")}, {ID: 2, Data: []byte("dex")}, {ID: 0, Data: []byte("abc")}})
	fmt.Println(none == api.ErrRank, clash == api.ErrClash, d.Add(-1, []byte("abc")))
	// Output:
	// 2 true 1 true 0
	// abcdef true
	// abcdef true
	// true true false
}
