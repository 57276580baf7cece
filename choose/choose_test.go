package choose_test

import (
	"fmt"
	"math"
	"math/rand"
	"slices"
	"sort"
	"sync"
	"testing"

	"wellspring/api"
	"wellspring/choose"
	"wellspring/draw"
)

// generator draws by the formula of chapter 5, without package draw.
type generator uint64

func (g *generator) next() uint32 {
	*g = *g*6364136223846793005 + 1442695040888963407
	return uint32(*g >> 32)
}

// exchanged is what Some returns by the chapter's words: the exchanges done one
// by one over the whole list, and its first k elements sorted. It draws from g.
func exchanged(g *generator, n, k int) []int {
	var list []int
	for number := 0; number < n; number++ {
		list = append(list, number)
	}
	for i := 0; i <= k-1; i++ {
		at := i + int(g.next())%(n-i)
		first, second := list[i], list[at]
		list[i], list[at] = second, first
	}
	first := append([]int{}, list[:k]...)
	sort.Ints(first)
	return first
}

// someIs holds what Some returns of a new Draw, and the number that the Draw
// draws then, against the exchanges.
func someIs(t *testing.T, seed uint32, n, k int) {
	t.Helper()
	d, g := draw.New(seed), generator(seed)
	got, want := choose.Some(d, n, k), exchanged(&g, n, k)
	if !slices.Equal(got, want) {
		t.Fatalf("Some(New(%d), %d, %d) = %v, want %v", seed, n, k, got, want)
	}
	if got, want := d.Next(), g.next(); got != want {
		t.Fatalf("Next after Some(New(%d), %d, %d) = %d, want %d", seed, n, k, got, want)
	}
}

// noneOf asserts that Some returns none, and that nothing is drawn.
func noneOf(t *testing.T, seed uint32, n, k int) {
	t.Helper()
	d, g := draw.New(seed), generator(seed)
	for range 2 {
		if got := choose.Some(d, n, k); len(got) != 0 {
			t.Fatalf("Some(New(%d), %d, %d) = %v, want none", seed, n, k, got)
		}
		if got, want := d.Next(), g.next(); got != want {
			t.Fatalf("Next after Some(New(%d), %d, %d) = %d, want %d: something was drawn", seed, n, k, got, want)
		}
	}
}

// seeds are ordinary ones and edges: 0, the greatest, and each bit alone.
func seeds() []uint32 {
	list := []uint32{
		0, 3, 7, 10, 255, 257, 65535, 65537, 123456789, 0xdeadbeef,
		math.MaxInt32, math.MaxInt32 + 2, math.MaxUint32 - 1, math.MaxUint32,
	}
	for bit := range 32 {
		list = append(list, 1<<bit)
	}
	return list
}

// outside are numbers below 0 and above MaxCols. Cut to 8, 16 or 32 bits, some of
// them would lie between.
func outside() []int {
	return []int{
		-1, -2, -3, -63, -64, -65, -128, -255, -256, -256 + 5, -1 << 16, -1<<16 + 5, -1 << 32, -1<<32 + 5,
		math.MinInt32, math.MinInt32 + 1, math.MinInt32 - 1, math.MinInt, math.MinInt + 1, math.MinInt + 5,
		api.MaxCols + 1, api.MaxCols + 2, 100, 127, 128, 255, 256, 257, 256 + 5, 1 << 16, 1<<16 + 5,
		math.MaxInt32, math.MaxInt32 + 1, math.MaxUint32, math.MaxUint32 + 1, 1<<32 + 5, 1<<32 + 64,
		1 << 40, 1 << 62, math.MaxInt - 1, math.MaxInt,
	}
}

// count is the list 0, 1, .., n - 1.
func count(n int) []int {
	list := []int{}
	for len(list) < n {
		list = append(list, len(list))
	}
	return list
}

// P7.1: what is chosen

func TestSomeOfTheExample(t *testing.T) {
	for _, seed := range seeds() {
		if got := choose.Some(draw.New(seed), 3, 3); !slices.Equal(got, []int{0, 1, 2}) {
			t.Errorf("Some(New(%d), 3, 3) = %v, want 0, 1, 2", seed, got)
		}
	}
}

// The last column is what Next returns then.
func TestSomeWrittenOut(t *testing.T) {
	for _, c := range []struct {
		seed uint32
		n, k int
		want []int
		then uint32
	}{
		{0, 0, 0, []int{}, 335903614},
		{7, 0, 0, []int{}, 2118330556},
		{0, 1, 0, []int{}, 335903614},
		{0, 1, 1, []int{0}, 436792849},
		{0, 2, 1, []int{0}, 436792849},
		{1, 2, 1, []int{0}, 2187888307},
		{0, 2, 2, []int{0, 1}, 2599843874},
		{0, 3, 3, []int{0, 1, 2}, 1723210473},
		{0, 5, 2, []int{2, 4}, 2599843874},
		{1, 5, 2, []int{3, 4}, 2784682393},
		{2, 5, 4, []int{0, 1, 2, 3}, 890216591},
		{0, 10, 1, []int{4}, 436792849},
		{0, 10, 3, []int{0, 4, 8}, 1723210473},
		{0, 10, 5, []int{0, 1, 3, 4, 8}, 2408873782},
		{3, 10, 9, []int{0, 1, 2, 3, 4, 5, 7, 8, 9}, 3015775219},
		{256, 17, 6, []int{4, 5, 7, 9, 11, 16}, 2724354064},
		{65536, 20, 7, []int{1, 2, 4, 8, 9, 13, 18}, 897626063},
		{2147483647, 20, 3, []int{8, 9, 17}, 883048206},
		{2147483648, 20, 3, []int{1, 10, 19}, 804223473},
		{4294967295, 20, 10, []int{1, 6, 8, 9, 10, 11, 16, 17, 18, 19}, 2501339611},
		{0, 63, 8, []int{0, 4, 25, 36, 39, 58, 60, 61}, 2073582529},
		{0, 64, 8, []int{4, 8, 14, 16, 20, 46, 53, 62}, 2073582529},
		{1, 64, 1, []int{44}, 2187888307},
		{4294967295, 64, 16, []int{0, 2, 5, 6, 10, 15, 26, 35, 36, 43, 46, 47, 54, 58, 59, 62}, 3410074463},
		{123456789, 64, 32, []int{
			0, 1, 6, 8, 9, 16, 17, 18, 19, 20, 23, 27, 28, 30, 33, 37,
			39, 40, 42, 43, 45, 46, 47, 52, 53, 54, 55, 56, 59, 60, 62, 63,
		}, 338975711},
		{5, 64, 64, count(64), 739966142},
	} {
		d := draw.New(c.seed)
		if got := choose.Some(d, c.n, c.k); !slices.Equal(got, c.want) {
			t.Errorf("Some(New(%d), %d, %d) = %v, want %v", c.seed, c.n, c.k, got, c.want)
		}
		if got := d.Next(); got != c.then {
			t.Errorf("Next after Some(New(%d), %d, %d) = %d, want %d", c.seed, c.n, c.k, got, c.then)
		}
	}
}

func TestSomeByTheExchanges(t *testing.T) {
	for _, seed := range seeds() {
		for n := 0; n <= api.MaxCols; n++ {
			for k := 0; k <= n; k++ {
				someIs(t, seed, n, k)
			}
		}
	}
}

func TestSomeOfManySeeds(t *testing.T) {
	dice := rand.New(rand.NewSource(1))
	for range 50000 {
		n := dice.Intn(api.MaxCols + 1)
		someIs(t, dice.Uint32(), n, dice.Intn(n+1))
	}
}

// A Draw from which others have drawn goes on from where they left it.
func TestSomeOneAfterAnother(t *testing.T) {
	dice := rand.New(rand.NewSource(2))
	for _, seed := range seeds() {
		d, g := draw.New(seed), generator(seed)
		for range 100 {
			n := dice.Intn(api.MaxCols + 1)
			k := dice.Intn(n + 1)
			if got, want := choose.Some(d, n, k), exchanged(&g, n, k); !slices.Equal(got, want) {
				t.Fatalf("Some(d, %d, %d) = %v, want %v", n, k, got, want)
			}
			if dice.Intn(3) == 0 {
				if got, want := d.Next(), g.next(); got != want {
					t.Fatalf("Next after Some(d, %d, %d) = %d, want %d", n, k, got, want)
				}
			}
		}
	}
}

func TestSomeIsAscendingAndBelowN(t *testing.T) {
	for _, seed := range seeds() {
		for n := 0; n <= api.MaxCols; n++ {
			for k := 0; k <= n; k++ {
				got := choose.Some(draw.New(seed), n, k)
				if len(got) != k {
					t.Fatalf("Some(New(%d), %d, %d) has %d numbers: %v", seed, n, k, len(got), got)
				}
				for i, number := range got {
					if number < 0 || number >= n || i > 0 && number <= got[i-1] {
						t.Fatalf("Some(New(%d), %d, %d) = %v", seed, n, k, got)
					}
				}
			}
		}
	}
}

// With one number more, none of those that were chosen goes.
func TestSomeGrowsByOneNumber(t *testing.T) {
	for _, seed := range seeds() {
		for _, n := range []int{1, 2, 9, 33, api.MaxCols} {
			for k := range n {
				less, more := choose.Some(draw.New(seed), n, k), choose.Some(draw.New(seed), n, k+1)
				for _, number := range less {
					if !slices.Contains(more, number) {
						t.Fatalf("Some(New(%d), %d, ..): %v, and then %v", seed, n, less, more)
					}
				}
			}
		}
	}
}

// Each subset comes about as often as any other.
func TestEachSubsetComes(t *testing.T) {
	const times = 60000
	d, counts := draw.New(9), map[string]int{}
	for range times {
		counts[fmt.Sprint(choose.Some(d, 6, 3))]++
	}
	if len(counts) != 20 {
		t.Errorf("%d subsets of 3 among 6 came, want 20", len(counts))
	}
	for subset, came := range counts {
		if came < times/20*9/10 || came > times/20*11/10 {
			t.Errorf("%s came %d times of %d", subset, came, times)
		}
	}
}

// P7.1: the edges of n and k

func TestSomeOf0(t *testing.T) {
	for _, seed := range seeds() {
		for n := 0; n <= api.MaxCols; n++ {
			noneOf(t, seed, n, 0)
		}
	}
}

func TestSomeOfAll(t *testing.T) {
	for _, seed := range seeds() {
		for n := 0; n <= api.MaxCols; n++ {
			if got := choose.Some(draw.New(seed), n, n); !slices.Equal(got, count(n)) {
				t.Fatalf("Some(New(%d), %d, %d) = %v", seed, n, n, got)
			}
		}
	}
}

// k numbers are drawn, the last one too, which is modulo 1 where k is n.
func TestSomeDrawsKNumbers(t *testing.T) {
	for _, seed := range seeds() {
		for n := 0; n <= api.MaxCols; n++ {
			for k := 0; k <= n; k++ {
				d, other := draw.New(seed), draw.New(seed)
				choose.Some(d, n, k)
				for range k {
					other.Next()
				}
				if got, want := d.Next(), other.Next(); got != want {
					t.Fatalf("Next after Some(New(%d), %d, %d) = %d, want %d", seed, n, k, got, want)
				}
			}
		}
	}
}

func TestSomeOfMaxCols(t *testing.T) {
	for _, seed := range seeds() {
		for k := 1; k <= api.MaxCols; k++ {
			got := choose.Some(draw.New(seed), api.MaxCols, k)
			g := generator(seed)
			if want := exchanged(&g, api.MaxCols, k); len(got) != k || !slices.Equal(got, want) {
				t.Fatalf("Some(New(%d), MaxCols, %d) = %v, want %v", seed, k, got, want)
			}
		}
	}
}

// P7.1: wrong n and k

func TestSomeOfAnNOutside(t *testing.T) {
	for _, seed := range []uint32{0, 1, 77, math.MaxUint32} {
		for _, n := range outside() {
			for k := -2; k <= api.MaxCols+2; k++ {
				noneOf(t, seed, n, k)
			}
			noneOf(t, seed, n, n)
			noneOf(t, seed, n, n-1)
			noneOf(t, seed, n, n/2)
		}
	}
}

func TestSomeOfAKOutside(t *testing.T) {
	for _, seed := range []uint32{0, 1, 77, math.MaxUint32} {
		for n := 0; n <= api.MaxCols; n++ {
			for _, k := range outside() {
				noneOf(t, seed, n, k)
			}
			for k := n + 1; k <= api.MaxCols+2; k++ {
				noneOf(t, seed, n, k)
			}
		}
	}
}

func TestSomeOfBothOutside(t *testing.T) {
	for _, n := range outside() {
		for _, k := range outside() {
			noneOf(t, 5, n, k)
		}
	}
}

// P7.1: a nil Draw, whose Below returns 0, so that each element stays

func TestSomeOfANilDraw(t *testing.T) {
	for n := 0; n <= api.MaxCols; n++ {
		for k := 0; k <= n; k++ {
			if got := choose.Some(nil, n, k); !slices.Equal(got, count(k)) {
				t.Fatalf("Some(nil, %d, %d) = %v", n, k, got)
			}
		}
		for _, wrong := range append(outside(), n+1) {
			if got := choose.Some(nil, n, wrong); len(got) != 0 {
				t.Fatalf("Some(nil, %d, %d) = %v, want none", n, wrong, got)
			}
		}
	}
	for _, n := range outside() {
		for _, k := range []int{n, 0, 1, 5, -1} {
			if got := choose.Some(nil, n, k); len(got) != 0 {
				t.Fatalf("Some(nil, %d, %d) = %v, want none", n, k, got)
			}
		}
	}
}

// R3: what is returned is new memory each time

// spoil writes over a list, and over what lies behind it.
func spoil(list []int) {
	whole := list[:cap(list)]
	for i := range whole {
		whole[i] = -77
	}
}

func TestSomeIsNewMemory(t *testing.T) {
	for _, seed := range seeds() {
		for n := 0; n <= api.MaxCols; n++ {
			k := int(seed) % (n + 1)
			g := generator(seed)
			want := exchanged(&g, n, k)
			first, second := choose.Some(draw.New(seed), n, k), choose.Some(draw.New(seed), n, k)
			spoil(first)
			if !slices.Equal(second, want) {
				t.Fatalf("what was written into one Some(New(%d), %d, %d) is in another: %v", seed, n, k, second)
			}
			if third := choose.Some(draw.New(seed), n, k); !slices.Equal(third, want) {
				t.Fatalf("what was written into one Some(New(%d), %d, %d) is in a later one: %v", seed, n, k, third)
			}
		}
	}
}

// Of one Draw, and all held at once.
func TestSomesApart(t *testing.T) {
	for _, d := range []*draw.Draw{draw.New(6), nil} {
		var lists, copies [][]int
		for n := 0; n <= api.MaxCols; n++ {
			for _, k := range []int{0, n / 3, n} {
				list := choose.Some(d, n, k)
				lists, copies = append(lists, list), append(copies, slices.Clone(list))
			}
		}
		for i := range lists {
			if !slices.Equal(lists[i], copies[i]) {
				t.Fatalf("list number %d was modified: %v, was %v", i, lists[i], copies[i])
			}
			spoil(lists[i])
			spoil(append(lists[i], 1))
		}
	}
}

// R3: of the Draw no more is used than its numbers, and nothing of it is kept

func TestTheDrawIsNotKept(t *testing.T) {
	for _, seed := range seeds() {
		d, g := draw.New(seed), generator(seed)
		choose.Some(d, 20, 9)
		exchanged(&g, 20, 9)
		choose.Some(draw.New(seed+1), 30, 30)
		choose.Some(d.Clone(), 40, 11)
		if got, want := d.Next(), g.next(); got != want {
			t.Fatalf("a Draw was drawn from by Some of another: %d, want %d", got, want)
		}
		if got, want := choose.Some(d, 20, 9), exchanged(&g, 20, 9); !slices.Equal(got, want) {
			t.Fatalf("Some(d, 20, 9) = %v, want %v", got, want)
		}
	}
}

// R5: what is returned depends on the Draw, n and k alone

func TestTheSameAgain(t *testing.T) {
	for _, seed := range seeds() {
		one := draw.New(seed)
		var all [][]int
		for n := 0; n <= api.MaxCols; n++ {
			all = append(all, choose.Some(one, n, n/2))
		}
		other := draw.New(seed)
		for n := 0; n <= api.MaxCols; n++ {
			choose.Some(draw.New(3), api.MaxCols, 17)
			choose.Some(nil, 5, 2)
			choose.Some(other, n, n+1)
			choose.Some(other, -1, 0)
			if again := choose.Some(other, n, n/2); !slices.Equal(again, all[n]) {
				t.Fatalf("Some of a Draw of the seed %d, %d and %d: %v, and then %v", seed, n, n/2, all[n], again)
			}
		}
	}
}

// A Clone chooses what its elder would.
func TestSomeOfAClone(t *testing.T) {
	for _, seed := range seeds() {
		d := draw.New(seed)
		for n := 1; n <= api.MaxCols; n++ {
			copied := d.Clone()
			first, second := choose.Some(copied, n, n/2+1), choose.Some(d, n, n/2+1)
			if !slices.Equal(first, second) {
				t.Fatalf("Some(.., %d, %d) of a Clone %v, of its elder %v", n, n/2+1, first, second)
			}
		}
	}
}

// A Draw for each of several at once.
func TestManyAtOnce(t *testing.T) {
	var want [][]int
	for n, g := 0, generator(5); n <= api.MaxCols; n++ {
		want = append(want, exchanged(&g, n, (n+1)/2))
	}
	var wait sync.WaitGroup
	for range 8 {
		wait.Go(func() {
			for range 20 {
				d := draw.New(5)
				for n := range want {
					if got := choose.Some(d, n, (n+1)/2); !slices.Equal(got, want[n]) {
						t.Errorf("Some(d, %d, %d) = %v, want %v", n, (n+1)/2, got, want[n])
						return
					}
				}
			}
		})
	}
	wait.Wait()
}

func Example() {
	d := draw.New(0)
	fmt.Println(choose.Some(d, 3, 3))
	fmt.Println(choose.Some(d, 64, 5))
	fmt.Println(len(choose.Some(d, 3, 4)))
	// Output:
	// [0 1 2]
	// [14 20 27 41 60]
	// 0
}
