package draw_test

import (
	"fmt"
	"math"
	"math/big"
	"math/rand"
	"slices"
	"sync"
	"testing"

	"wellspring/draw"
)

// formula draws by the chapter's formula, worked out with whole numbers of any
// size.
type formula struct{ state *big.Int }

func begin(seed uint32) formula { return formula{new(big.Int).SetUint64(uint64(seed))} }

func number(text string) *big.Int {
	n, ok := new(big.Int).SetString(text, 10)
	if !ok {
		panic(text)
	}
	return n
}

var (
	factor  = number("6364136223846793005")
	summand = number("1442695040888963407")
	wrap    = number("18446744073709551616") // 2^64
)

func (f formula) next() *big.Int {
	f.state.Mul(f.state, factor)
	f.state.Add(f.state, summand)
	f.state.Mod(f.state, wrap)
	return new(big.Int).Rsh(f.state, 32)
}

func (f formula) below(n int) *big.Int {
	if n <= 0 {
		return new(big.Int)
	}
	drawn := f.next()
	return drawn.Mod(drawn, big.NewInt(int64(n)))
}

func (f formula) clone() formula { return formula{new(big.Int).Set(f.state)} }

// nexts holds what Next returns, so many times, against the formula.
func nexts(t *testing.T, d *draw.Draw, f formula, times int) {
	t.Helper()
	for i := range times {
		if got, want := d.Next(), f.next().Uint64(); uint64(got) != want {
			t.Fatalf("Next number %d: %d, want %d", i, got, want)
		}
	}
}

// belows holds what Below returns against the formula.
func belows(t *testing.T, d *draw.Draw, f formula, n int) {
	t.Helper()
	if got, want := d.Below(n), f.below(n).Int64(); int64(got) != want {
		t.Fatalf("Below(%d) = %d, want %d", n, got, want)
	}
}

// seeds are ordinary ones and edges: 0, the greatest, and each bit alone.
func seeds() []uint32 {
	list := []uint32{
		0, 3, 7, 10, 255, 257, 65535, 65537, 123456789, 0xdeadbeef,
		math.MaxInt32, math.MaxInt32 + 2, math.MaxUint32 - 1, math.MaxUint32,
	}
	for bit := range 32 {
		list = append(list, 1<<bit)
	}
	return list
}

// bounds are those of which Below draws: small and great ones, and ones beyond
// 32 bits.
func bounds() []int {
	return []int{
		1, 2, 3, 4, 5, 7, 10, 16, 17, 63, 64, 65, 100, 255, 256, 257, 65535, 65536, 65537, 1 << 20, 1<<20 + 7,
		math.MaxInt32 - 1, math.MaxInt32, math.MaxInt32 + 1, math.MaxInt32 + 2, 3_000_000_000,
		math.MaxUint32 - 1, math.MaxUint32, math.MaxUint32 + 1, math.MaxUint32 + 2,
		1<<32 + 10, 3 << 32, 1<<33 - 1, 1 << 33, 1 << 40, 1<<40 + 3, 1 << 53, 1 << 62, math.MaxInt - 1, math.MaxInt,
	}
}

// noBounds are those of which Below draws nothing. Cut to 32 bits, some of them
// would be above 0.
func noBounds() []int {
	return []int{
		0, -1, -2, -3, -7, -64, -256, -65536, math.MinInt32, math.MinInt32 + 1, math.MinInt32 - 1,
		-math.MaxUint32, -1 << 32, -1<<32 - 1, -1<<32 + 1, -1 << 40, math.MinInt, math.MinInt + 1, math.MinInt + 5,
	}
}

// P5.1: New and Next

func TestNextOfTheExample(t *testing.T) {
	if got := draw.New(0).Next(); got != 335903614 {
		t.Errorf("Next of New(0) = %d, want 335903614", got)
	}
}

func TestNextWrittenOut(t *testing.T) {
	for _, c := range []struct {
		seed uint32
		want []uint32
	}{
		{0, []uint32{335903614, 436792849, 2599843874, 1723210473, 1647660250}},
		{1, []uint32{1817669548, 2187888307, 2784682393, 1644385741, 3416422068}},
		{2, []uint32{3299435481, 3938983765, 2969520912, 1565561008, 890216591}},
		{256, []uint32{1710860491, 2040631315, 2673864468, 3018915451, 3479119664}},
		{65536, []uint32{137545748, 2997546913, 74279495, 2711203164, 2349835061}},
		{2147483647, []uint32{1644054248, 2993761380, 151298853, 883048206, 603295486}},
		{2147483648, []uint32{3125820181, 449889542, 336137372, 804223473, 2372057304}},
		{4294967294, []uint32{2952204881, 1255762614, 1997721129, 42885939, 3853898018}},
		{4294967295, []uint32{139003518, 3006858072, 2182559648, 4259028502, 1327692541}},
	} {
		d := draw.New(c.seed)
		for i, want := range c.want {
			if got := d.Next(); got != want {
				t.Errorf("Next number %d of New(%d) = %d, want %d", i, c.seed, got, want)
			}
		}
	}
}

func TestNextByTheFormula(t *testing.T) {
	for _, seed := range seeds() {
		nexts(t, draw.New(seed), begin(seed), 2000)
	}
}

func TestNextOfManySeeds(t *testing.T) {
	dice := rand.New(rand.NewSource(1))
	for range 5000 {
		seed := dice.Uint32()
		nexts(t, draw.New(seed), begin(seed), 4)
	}
}

func TestNextFarOn(t *testing.T) {
	for _, c := range []struct{ seed, thousandth, last uint32 }{
		{0, 210113301, 1122090772}, {1, 4111990630, 1828492616}, {4294967295, 823957349, 927104865},
	} {
		d := draw.New(c.seed)
		for i := 1; i <= 100000; i++ {
			got := d.Next()
			if i == 1000 && got != c.thousandth || i == 100000 && got != c.last {
				t.Errorf("the Next that comes as number %d of New(%d): %d", i, c.seed, got)
			}
		}
	}
}

// P5.1: Below

func TestBelowWrittenOut(t *testing.T) {
	for _, c := range []struct {
		n    int
		want []int
	}{ // of the seed 0
		{1, []int{0, 0, 0}},
		{2, []int{0, 1, 0}},
		{10, []int{4, 9, 4}},
		{64, []int{62, 17, 34}},
		{335903614, []int{0, 100889235, 248518576}},
		{335903615, []int{335903614, 100889234, 248518569}},
		{math.MaxInt32, []int{335903614, 436792849, 452360227}},
		{math.MaxUint32, []int{335903614, 436792849, 2599843874}},
		{1 << 32, []int{335903614, 436792849, 2599843874}},
		{1<<32 + 2, []int{335903614, 436792849, 2599843874}},
		{math.MaxInt, []int{335903614, 436792849, 2599843874}},
	} {
		d := draw.New(0)
		for i, want := range c.want {
			if got := d.Below(c.n); got != want {
				t.Errorf("Below(%d) number %d of New(0) = %d, want %d", c.n, i, got, want)
			}
		}
	}
}

func TestBelowByTheFormula(t *testing.T) {
	for _, seed := range seeds() {
		for _, n := range bounds() {
			d, f := draw.New(seed), begin(seed)
			for range 20 {
				belows(t, d, f, n)
			}
			nexts(t, d, f, 2)
		}
	}
}

func TestBelowIsInItsBound(t *testing.T) {
	for _, seed := range seeds() {
		d := draw.New(seed)
		for _, n := range bounds() {
			for range 50 {
				if got := d.Below(n); got < 0 || got >= n || got > math.MaxUint32 {
					t.Fatalf("Below(%d) = %d", n, got)
				}
			}
		}
	}
}

// Of a bound beyond 32 bits it is the whole of what Next would return.
func TestBelowOfBoundsBeyond32Bits(t *testing.T) {
	for _, seed := range seeds() {
		for _, n := range bounds() {
			if n <= math.MaxUint32 {
				continue
			}
			d, other := draw.New(seed), draw.New(seed)
			for range 20 {
				if got, want := d.Below(n), int(other.Next()); got != want {
					t.Fatalf("Below(%d) of New(%d) = %d, want %d", n, seed, got, want)
				}
			}
		}
	}
}

// Below of 1 can only return 0, but a number is drawn.
func TestBelowOf1Draws(t *testing.T) {
	for _, seed := range seeds() {
		d, f := draw.New(seed), begin(seed)
		for range 50 {
			if got := d.Below(1); got != 0 {
				t.Fatalf("Below(1) = %d", got)
			}
			f.next()
			nexts(t, d, f, 1)
		}
	}
}

func TestBelowOfNoBoundDrawsNothing(t *testing.T) {
	for _, seed := range seeds() {
		d, f := draw.New(seed), begin(seed)
		for _, n := range noBounds() {
			for range 3 {
				if got := d.Below(n); got != 0 {
					t.Fatalf("Below(%d) = %d, want 0", n, got)
				}
			}
			nexts(t, d, f, 1)
			if got := d.Below(n); got != 0 {
				t.Fatalf("Below(%d) after a Next = %d, want 0", n, got)
			}
			belows(t, d, f, 1000)
		}
	}
}

// Any calls in any order, of Draws and of their Clones.
func TestAllMixed(t *testing.T) {
	dice := rand.New(rand.NewSource(2))
	all := append(bounds(), noBounds()...)
	for range 60 {
		seed := dice.Uint32()
		ds, fs := []*draw.Draw{draw.New(seed)}, []formula{begin(seed)}
		for range 300 {
			i := dice.Intn(len(ds))
			switch dice.Intn(5) {
			case 0, 1:
				nexts(t, ds[i], fs[i], 1)
			case 2:
				belows(t, ds[i], fs[i], all[dice.Intn(len(all))])
			case 3:
				belows(t, ds[i], fs[i], dice.Intn(200)-20)
			default:
				if len(ds) < 10 {
					ds, fs = append(ds, ds[i].Clone()), append(fs, fs[i].clone())
				}
			}
		}
	}
}

// P5.1 and R3: Clone, and what New returns, share nothing

func TestCloneDrawsWhatItsElderWould(t *testing.T) {
	for _, seed := range seeds() {
		d, f := draw.New(seed), begin(seed)
		for range 40 {
			nexts(t, d.Clone(), f.clone(), 10)
			c, g := d.Clone(), f.clone()
			for _, n := range []int{5, 0, 1, 1 << 40, 1000} {
				belows(t, c, g, n)
			}
			nexts(t, d, f, 1)
		}
	}
}

func TestCloneGoesItsOwnWay(t *testing.T) {
	for _, seed := range seeds() {
		for age := range 5 {
			d, f := draw.New(seed), begin(seed)
			nexts(t, d, f, age)
			c, g := d.Clone(), f.clone()
			if c == d {
				t.Fatal("a Clone is its elder")
			}
			nexts(t, d, f, 7) // the elder goes first
			nexts(t, c, g, 20)
			nexts(t, d, f, 7)
			belows(t, c, g, 12)
			belows(t, d, f, 12)
			nexts(t, c, g, 1)
			nexts(t, d, f, 1)
		}
	}
}

func TestCloneOfAClone(t *testing.T) {
	for _, seed := range seeds() {
		d, f := draw.New(seed), begin(seed)
		ds, fs := []*draw.Draw{d}, []formula{f}
		for range 6 {
			d, f = d.Clone(), f.clone()
			nexts(t, d, f, 3)
			ds, fs = append(ds, d), append(fs, f)
		}
		for i := range ds {
			nexts(t, ds[i], fs[i], 5)
			for j := range ds {
				if i != j && ds[i] == ds[j] {
					t.Fatal("two Clones are one")
				}
			}
		}
	}
}

func TestCloneDrawsNothing(t *testing.T) {
	d, f := draw.New(77), begin(77)
	for range 50 {
		for range 3 {
			d.Clone()
			d.Clone().Next()
		}
		nexts(t, d, f, 1)
	}
}

func TestNewIsNewMemory(t *testing.T) {
	for _, seed := range seeds() {
		first, second := draw.New(seed), draw.New(seed)
		if first == second {
			t.Fatalf("two New(%d) are one", seed)
		}
		nexts(t, first, begin(seed), 10)
		nexts(t, second, begin(seed), 10)
	}
}

// R5: what is drawn depends on the seed and on what was drawn before

func TestTwoOfOneSeedDrawTheSame(t *testing.T) {
	dice := rand.New(rand.NewSource(3))
	all := append(bounds(), noBounds()...)
	for _, seed := range seeds() {
		first, second := draw.New(seed), draw.New(seed)
		var asked, got []int
		for range 100 {
			n := all[dice.Intn(len(all))]
			asked = append(asked, n)
			got = append(got, int(first.Next()), first.Below(n))
		}
		for i, n := range asked { // when the first has drawn all of its own
			if next, below := int(second.Next()), second.Below(n); next != got[2*i] || below != got[2*i+1] {
				t.Fatalf("two New(%d): %d and Below(%d) = %d, now %d and %d", seed, got[2*i], n, got[2*i+1], next, below)
			}
		}
	}
}

// Below draws from the state that Next draws from: no other one is kept.
func TestBelowIsNextModuloItsBound(t *testing.T) {
	for _, seed := range seeds() {
		one, other := draw.New(seed), draw.New(seed)
		for n := 1; n <= 300; n++ {
			if got, want := one.Below(n), int(other.Next())%n; got != want {
				t.Fatalf("Below(%d) = %d, Next modulo it %d", n, got, want)
			}
		}
	}
}

// Draws of several seeds, drawn from by turns, do not hang on one another.
func TestByTurns(t *testing.T) {
	var ds []*draw.Draw
	var fs []formula
	for range 2 {
		for _, seed := range seeds() {
			ds, fs = append(ds, draw.New(seed)), append(fs, begin(seed))
		}
	}
	for round := range 50 {
		for i := range ds {
			nexts(t, ds[i], fs[i], round%3)
			belows(t, ds[i], fs[i], round*i-1)
		}
	}
}

// A Draw for each of several at once.
func TestManyAtOnce(t *testing.T) {
	var want []uint32
	for d := draw.New(5); len(want) < 1000; {
		want = append(want, d.Next())
	}
	elder := draw.New(5)
	var wait sync.WaitGroup
	for range 8 {
		wait.Go(func() {
			for _, d := range []*draw.Draw{draw.New(5), elder.Clone()} {
				var got []uint32
				for len(got) < len(want) {
					got = append(got, d.Next())
				}
				if !slices.Equal(got, want) {
					t.Error("other numbers of the same seed")
				}
			}
		})
	}
	wait.Wait()
}

// P5.1: a nil Draw

func TestNilDraw(t *testing.T) {
	var d *draw.Draw
	for range 3 {
		if got := d.Next(); got != 0 {
			t.Errorf("Next of a nil Draw: %d", got)
		}
		for _, n := range append(bounds(), noBounds()...) {
			if got := d.Below(n); got != 0 {
				t.Errorf("Below(%d) of a nil Draw: %d", n, got)
			}
		}
		if d.Clone() != nil {
			t.Error("the Clone of a nil Draw is not nil")
		}
	}
	if got := draw.New(0).Next(); got != 335903614 {
		t.Errorf("Next of New(0) after a nil Draw: %d", got)
	}
}

// R1: a Draw that New did not make draws as one of the seed 0.
func TestDrawThatNewDidNotMake(t *testing.T) {
	nexts(t, new(draw.Draw), begin(0), 10)
	nexts(t, new(draw.Draw).Clone(), begin(0), 10)
}

func Example() {
	d := draw.New(0)
	fmt.Println(d.Next(), d.Below(10), d.Below(0))
	c := d.Clone()
	fmt.Println(d.Next(), c.Next())
	// Output:
	// 335903614 9 0
	// 2599843874 2599843874
}
