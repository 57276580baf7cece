package soliton_test

import (
	"fmt"
	"math"
	"math/big"
	"slices"
	"strconv"
	"sync"
	"testing"

	"wellspring/api"
	"wellspring/draw"
	"wellspring/soliton"
)

// shape is what the chapter derives from a number of columns: R, M and B.
type shape struct{ l, root, peak, digits int }

func shapeOf(l int) shape {
	root := 0
	for root*root < l {
		root++
	}
	return shape{l, root, l / root, len(strconv.FormatInt(int64(root), 2))}
}

// rounded is over / under, rounded down, worked out with whole numbers of any
// size.
func rounded(over, under int) int {
	return int(new(big.Int).Div(big.NewInt(int64(over)), big.NewInt(int64(under))).Int64())
}

// ideal is what the weight of k is before it is increased.
func (s shape) ideal(k int) int {
	if k == 1 {
		return rounded(1<<20, s.l)
	}
	return rounded(1<<20, k*(k-1))
}

// more is by how much the weight of k is increased.
func (s shape) more(k int) int {
	if k < s.peak {
		return rounded(1<<20*s.root, s.l*k)
	}
	if k == s.peak {
		return rounded(1<<20*s.root*s.digits, s.l)
	}
	return 0
}

// sums are the numbers of the Table of l columns by the chapter's formulas.
func sums(l int) []int {
	s, list, sum := shapeOf(l), []int{}, 0
	for k := 1; k <= l; k++ {
		sum += s.ideal(k) + s.more(k)
		list = append(list, sum)
	}
	return list
}

// eachTable runs a test with the Table of each number of columns that has one.
func eachTable(t *testing.T, test func(t *testing.T, l int, table []int)) {
	for l := 1; l <= api.MaxCols; l++ {
		table := soliton.Table(l)
		if len(table) != l {
			t.Fatalf("Table(%d) has %d numbers", l, len(table))
		}
		test(t, l, table)
	}
}

// noColumns are numbers of columns of which there is no Table. Cut to 8, 16 or
// 32 bits, some of them would have one.
func noColumns() []int {
	return []int{
		0, -1, -2, -3, -4, -63, -64, -65, -255, -256, -1 << 16, -1<<16 + 5, -1 << 32, -1<<32 + 5,
		math.MinInt32, math.MinInt32 + 1, math.MinInt, math.MinInt + 1, math.MinInt + 5,
		api.MaxCols + 1, api.MaxCols + 2, 100, 127, 128, 255, 256, 257, 256 + 5, 1 << 16, 1<<16 + 5,
		math.MaxInt32, math.MaxInt32 + 1, math.MaxUint32, math.MaxUint32 + 1, 1<<32 + 5, 1<<32 + 64,
		math.MaxInt - 1, math.MaxInt,
	}
}

// seeds are ordinary ones and edges.
func seeds() []uint32 {
	return []uint32{0, 1, 2, 3, 77, 256, 65536, 123456789, math.MaxInt32, math.MaxInt32 + 1, math.MaxUint32 - 1, math.MaxUint32}
}

// P6.1: Table

func TestTableOfTheExample(t *testing.T) {
	if got := soliton.Table(1); !slices.Equal(got, []int{2097152}) {
		t.Errorf("Table(1) = %v, want 2097152", got)
	}
}

// Among them squares (4, 9, 16, 25), numbers right behind a square (5, 10, 17),
// ones whose peak is at 1 (1, 2, 3, 5), and ones of a root with one binary digit
// more than the number before (2, 10).
func TestTableWrittenOut(t *testing.T) {
	for _, want := range [][]int{
		{2097152},
		{2621440, 3145728},
		{1747626, 2271914, 2446676},
		{786432, 2359296, 2534058, 2621439},
		{1468006, 1992294, 2167056, 2254437, 2306865},
		{699050, 2271914, 2446676, 2534057, 2586485, 2621437},
		{599185, 2022252, 2197014, 2284395, 2336823, 2371775, 2396741},
		{524288, 1835008, 2009770, 2097151, 2149579, 2184531, 2209497, 2228221},
		{466033, 1165083, 2038895, 2126276, 2178704, 2213656, 2238622, 2257346, 2271909},
		{524287, 2306866, 2481628, 2569009, 2621437, 2656389, 2681355, 2700079, 2714642, 2726292},
		{
			327680, 983040, 1245183, 2118996, 2171424, 2206376, 2231342, 2250066, 2264629, 2276279, 2285811, 2293754,
			2300475, 2306236, 2311229, 2315598,
		},
		{
			370084, 1048574, 2148550, 2235931, 2288359, 2323311, 2348277, 2367001, 2381564, 2393214, 2402746, 2410689,
			2417410, 2423171, 2428164, 2432533, 2436388,
		},
		{
			314572, 969932, 1232075, 2105888, 2158316, 2193268, 2218234, 2236958, 2251521, 2263171, 2272703, 2280646,
			2287367, 2293128, 2298121, 2302490, 2306345, 2309771, 2312837, 2315596,
		},
		{
			251658, 880803, 1125470, 1265279, 1946852, 1981804, 2006770, 2025494, 2040057, 2051707, 2061239, 2069182,
			2075903, 2081664, 2086657, 2091026, 2094881, 2098307, 2101373, 2104132, 2106628, 2108897, 2110969, 2112868,
			2114615,
		},
		{
			149796, 740660, 959806, 1080475, 1159533, 1216677, 1774253, 1792977, 1807540, 1819190, 1828722, 1836665,
			1843386, 1849147, 1854140, 1858509, 1862364, 1865790, 1868856, 1871615, 1874111, 1876380, 1878452, 1880351,
			1882098, 1883711, 1885204, 1886591, 1887882, 1889087, 1890214, 1891271, 1892263, 1893197, 1894078, 1894910,
			1895697, 1896442, 1897149, 1897821, 1898460, 1899068, 1899648, 1900202, 1900731, 1901237, 1901722, 1902186,
			1902631, 1903058, 1903469, 1903864, 1904244, 1904610, 1904963, 1905303, 1905631, 1905948, 1906254, 1906550,
			1906836, 1907113, 1907381,
		},
		{
			147456, 737280, 955732, 1075881, 1154523, 1211320, 1255010, 1798022, 1812585, 1824235, 1833767, 1841710,
			1848431, 1854192, 1859185, 1863554, 1867409, 1870835, 1873901, 1876660, 1879156, 1881425, 1883497, 1885396,
			1887143, 1888756, 1890249, 1891636, 1892927, 1894132, 1895259, 1896316, 1897308, 1898242, 1899123, 1899955,
			1900742, 1901487, 1902194, 1902866, 1903505, 1904113, 1904693, 1905247, 1905776, 1906282, 1906767, 1907231,
			1907676, 1908103, 1908514, 1908909, 1909289, 1909655, 1910008, 1910348, 1910676, 1910993, 1911299, 1911595,
			1911881, 1912158, 1912426, 1912686,
		},
	} {
		if got := soliton.Table(len(want)); !slices.Equal(got, want) {
			t.Errorf("Table(%d) = %v, want %v", len(want), got, want)
		}
	}
}

func TestTableByTheFormula(t *testing.T) {
	eachTable(t, func(t *testing.T, l int, table []int) {
		for i, want := range sums(l) {
			if table[i] != want {
				t.Fatalf("Table(%d): number %d is %d, want %d", l, i+1, table[i], want)
			}
		}
	})
}

// weights are what is added from each number of a table to the next.
func weights(table []int) []int {
	list, before := []int{}, 0
	for _, sum := range table {
		list = append(list, sum-before)
		before = sum
	}
	return list
}

// Behind the peak nothing is added; at the peak and before it, as much as the
// chapter says.
func TestThePeak(t *testing.T) {
	eachTable(t, func(t *testing.T, l int, table []int) {
		s := shapeOf(l)
		for i, w := range weights(table) {
			if k := i + 1; w-s.ideal(k) != s.more(k) {
				t.Errorf("Table(%d), the peak at %d: the weight of %d is increased by %d, want %d", l, s.peak, k, w-s.ideal(k), s.more(k))
			}
		}
	})
}

// The shapes themselves, so that the formulas above stand on something.
func TestThePeakWrittenOut(t *testing.T) {
	for _, c := range []struct{ l, at, more int }{
		{1, 1, 1 << 20}, {2, 1, 1 << 21}, {3, 1, 1398101}, {4, 2, 1 << 20}, {5, 1, 1258291}, {6, 2, 1 << 20},
		{9, 3, 699050}, {10, 2, 1258291}, {12, 3, 1 << 20}, {16, 4, 3 << 18}, {17, 3, 925214}, {49, 7, 449389},
		{50, 6, 671088}, {63, 7, 532610}, {64, 8, 1 << 19},
	} {
		before := 1 << 20 / c.l
		if c.at > 1 {
			before = 1 << 20 / (c.at * (c.at - 1))
		}
		if got := weights(soliton.Table(c.l))[c.at-1]; got != before+c.more {
			t.Errorf("Table(%d): the weight of %d is %d, want %d + %d", c.l, c.at, got, before, c.more)
		}
	}
}

// exact is what the last number of the Table would be if nothing were rounded,
// and of how many quotients it is the sum.
func (s shape) exact() (sum *big.Rat, quotients int) {
	sum = new(big.Rat)
	add := func(over, under int) {
		sum.Add(sum, big.NewRat(int64(over), int64(under)))
		quotients++
	}
	add(1<<20, s.l)
	for k := 2; k <= s.l; k++ {
		add(1<<20, k*(k-1))
	}
	for k := 1; k < s.peak; k++ {
		add(1<<20*s.root, s.l*k)
	}
	add(1<<20*s.root*s.digits, s.l)
	return sum, quotients
}

// Each quotient loses less than 1, and all together more than 1: a sum that is
// rounded only at its end, or whose quotients are rounded up, does not.
func TestEveryQuotientIsRoundedDown(t *testing.T) {
	for l := 5; l <= api.MaxCols; l++ {
		exact, quotients := shapeOf(l).exact()
		last := new(big.Rat).SetInt64(int64(soliton.Table(l)[l-1]))
		lost, _ := exact.Sub(exact, last).Float64()
		if lost <= 1 || lost >= float64(quotients) {
			t.Errorf("Table(%d): its %d quotients lose %v in all", l, quotients, lost)
		}
	}
}

// Each degree has a weight, so that each can come.
func TestTableAscends(t *testing.T) {
	eachTable(t, func(t *testing.T, l int, table []int) {
		for i, w := range weights(table) {
			if w <= 0 {
				t.Errorf("Table(%d): the weight of %d is %d", l, i+1, w)
			}
		}
	})
}

func TestNoTable(t *testing.T) {
	for _, l := range noColumns() {
		if got := soliton.Table(l); len(got) != 0 {
			t.Errorf("Table(%d) has %d numbers, want none", l, len(got))
		}
	}
	for l := -2000; l <= 2000; l++ {
		if got := soliton.Table(l); (len(got) > 0) != (l >= 1 && l <= api.MaxCols) {
			t.Errorf("Table(%d) has %d numbers", l, len(got))
		}
	}
}

// P6.2: Degree

// degreeIs holds what Degree returns against what the chapter says of it.
func degreeIs(t *testing.T, table []int, x, want int) {
	t.Helper()
	if got := soliton.Degree(table, x); got != want {
		t.Errorf("Degree(Table(%d), %d) = %d, want %d", len(table), x, got, want)
	}
}

func TestDegreeWrittenOut(t *testing.T) {
	four := []int{786432, 2359296, 2534058, 2621439}
	for _, c := range []struct{ x, want int }{
		{math.MinInt, 0}, {-786432, 0}, {-2, 0}, {-1, 0}, {0, 1}, {1, 1}, {786431, 1}, {786432, 2}, {786433, 2},
		{2359295, 2}, {2359296, 3}, {2534057, 3}, {2534058, 4}, {2534059, 4}, {2621437, 4}, {2621438, 4},
		{2621439, 0}, {2621440, 0}, {math.MaxInt32, 0}, {math.MaxUint32 + 1, 0}, {math.MaxInt, 0},
	} {
		if got := soliton.Degree(four, c.x); got != c.want {
			t.Errorf("Degree(%v, %d) = %d, want %d", four, c.x, got, c.want)
		}
	}
}

// At each number and about it: a number is not above itself, so from there on
// the next degree holds, and behind the last one none.
func TestDegreeAtEachNumber(t *testing.T) {
	eachTable(t, func(t *testing.T, l int, table []int) {
		for i, sum := range table {
			next := i + 2
			if next > l {
				next = 0
			}
			degreeIs(t, table, sum-1, i+1)
			degreeIs(t, table, sum, next)
			degreeIs(t, table, sum+1, next)
		}
	})
}

func TestDegreeAtTheEdges(t *testing.T) {
	eachTable(t, func(t *testing.T, l int, table []int) {
		last := table[l-1]
		degreeIs(t, table, 0, 1)
		degreeIs(t, table, last-1, l)
		for _, x := range []int{
			-1, -2, -table[0], -last, math.MinInt32, math.MinInt32 - 1, -1 << 32, -1<<32 + 1, math.MinInt, math.MinInt + 1,
			last, last + 1, 2 * last, math.MaxInt32, math.MaxInt32 + 1, math.MaxUint32, 1 << 32, 1<<32 + 1, math.MaxInt - 1, math.MaxInt,
		} {
			degreeIs(t, table, x, 0)
		}
	})
}

// Each k holds from the number before it on until its own.
func TestDegreeInBetween(t *testing.T) {
	eachTable(t, func(t *testing.T, l int, table []int) {
		step := table[l-1]/500 + 1
		for x := 0; x < table[l-1]; x += step {
			k := soliton.Degree(table, x)
			if k < 1 || k > l || table[k-1] <= x || k > 1 && table[k-2] > x {
				t.Fatalf("Degree(Table(%d), %d) = %d", l, x, k)
			}
		}
	})
}

// Of how many x each k is the Degree, its weight tells.
func TestDegreeComesAsOftenAsItsWeight(t *testing.T) {
	for _, l := range []int{1, 2, 9, 20} {
		table := soliton.Table(l)
		times := make([]int, l)
		for x := range table[l-1] {
			k := soliton.Degree(table, x)
			if k < 1 || k > l {
				t.Fatalf("Degree(Table(%d), %d) = %d", l, x, k)
			}
			times[k-1]++
		}
		if want := weights(table); !slices.Equal(times, want) {
			t.Errorf("Degree of all below the last number of Table(%d): %v, want %v", l, times, want)
		}
	}
}

func TestDegreeOfAnEmptyTable(t *testing.T) {
	for _, table := range [][]int{nil, {}, make([]int, 0, 8), soliton.Table(0), soliton.Table(api.MaxCols + 1)} {
		for _, x := range []int{0, 1, -1, 1 << 20, math.MinInt, math.MaxInt} {
			degreeIs(t, table, x, 0)
		}
	}
}

// What lies in the memory behind a table is not part of it.
func TestDegreeLooksAtTheTableAlone(t *testing.T) {
	whole := soliton.Table(api.MaxCols)
	for n := range whole {
		part := whole[:n]
		if n > 0 {
			degreeIs(t, part, part[n-1]-1, n)
			degreeIs(t, part, part[n-1], 0)
		}
		degreeIs(t, part, whole[n], 0)
	}
}

// R1: lists that are no Tables are searched to the end too.
func TestNoTables(t *testing.T) {
	d := draw.New(1)
	for _, list := range [][]int{
		{0}, {0, 0, 0}, {-1}, {-5, -3}, {math.MinInt}, {math.MaxInt}, {math.MinInt, math.MaxInt}, {math.MaxInt, math.MinInt},
		{5, 4, 3}, {3, 3, 3}, {1, 0}, make([]int, 1000), {1 << 32, 1 << 40},
	} {
		for _, x := range []int{0, 1, -1, 2, 3, 4, 5, math.MinInt, math.MaxInt - 1, math.MaxInt} {
			if k := soliton.Degree(list, x); k < 0 || k > len(list) {
				t.Errorf("Degree(%v, %d) = %d", list, x, k)
			}
		}
		for _, drawer := range []*draw.Draw{d, nil} {
			if k := soliton.Draw(list, drawer); k < 0 || k > len(list) {
				t.Errorf("Draw of %v = %d", list, k)
			}
		}
	}
}

// P6.2: Draw

func TestDrawWrittenOut(t *testing.T) {
	for _, c := range []struct {
		l    int
		want []int
	}{ // of the seed 0
		{1, []int{1, 1, 1, 1, 1, 1, 1, 1, 1, 1, 1, 1}},
		{2, []int{1, 2, 1, 1, 1, 1, 1, 1, 1, 1, 1, 1}},
		{4, []int{1, 2, 2, 2, 2, 3, 2, 1, 1, 2, 2, 2}},
		{5, []int{1, 1, 1, 5, 1, 1, 1, 2, 3, 1, 1, 3}},
		{16, []int{1, 4, 4, 2, 4, 2, 4, 2, 3, 2, 4, 2}},
		{64, []int{6, 2, 2, 8, 3, 3, 7, 2, 2, 8, 2, 1}},
	} {
		d := draw.New(0)
		for i, want := range c.want {
			if got := soliton.Draw(soliton.Table(c.l), d); got != want {
				t.Errorf("Draw number %d of Table(%d) and the seed 0: %d, want %d", i, c.l, got, want)
			}
		}
	}
}

// After each Draw the Draw that was handed in has drawn what one Below of the
// last number draws, no more and no less.
func TestDrawTakesOneNumber(t *testing.T) {
	eachTable(t, func(t *testing.T, l int, table []int) {
		for _, seed := range seeds() {
			d, other := draw.New(seed), draw.New(seed)
			for range 30 {
				want := soliton.Degree(table, other.Below(table[l-1]))
				if got := soliton.Draw(table, d); got != want || got < 1 || got > l {
					t.Fatalf("Draw of Table(%d) and the seed %d: %d, want %d", l, seed, got, want)
				}
				if got, want := d.Clone().Next(), other.Clone().Next(); got != want {
					t.Fatalf("Next after a Draw of Table(%d) and the seed %d: %d, want %d", l, seed, got, want)
				}
			}
		}
	})
}

// Of a table of one degree only 1 can come, and yet a number is drawn.
func TestDrawOfOneDegreeDraws(t *testing.T) {
	d, other := draw.New(9), draw.New(9)
	for range 20 {
		if got := soliton.Draw(soliton.Table(1), d); got != 1 {
			t.Fatalf("Draw of Table(1) = %d", got)
		}
		other.Next()
		if got, want := d.Next(), other.Next(); got != want {
			t.Fatalf("Next after it: %d, want %d", got, want)
		}
	}
}

func TestDrawOfAnEmptyTableDrawsNothing(t *testing.T) {
	for _, table := range [][]int{nil, {}, make([]int, 0, 8), soliton.Table(0), soliton.Table(api.MaxCols + 1)} {
		for _, seed := range seeds() {
			d, other := draw.New(seed), draw.New(seed)
			for range 5 {
				if got := soliton.Draw(table, d); got != 0 {
					t.Fatalf("Draw of an empty table = %d", got)
				}
				if got, want := d.Next(), other.Next(); got != want {
					t.Fatalf("Next after a Draw of an empty table: %d, want %d", got, want)
				}
			}
		}
		if got := soliton.Draw(table, nil); got != 0 {
			t.Errorf("Draw of an empty table and a nil Draw = %d", got)
		}
	}
}

// Below of a nil Draw returns 0, whose Degree is 1.
func TestDrawOfANilDraw(t *testing.T) {
	eachTable(t, func(t *testing.T, l int, table []int) {
		for range 3 {
			if got := soliton.Draw(table, nil); got != 1 {
				t.Errorf("Draw of Table(%d) and a nil Draw = %d, want 1", l, got)
			}
		}
	})
}

// Each degree is drawn about as often as its weight says.
func TestDrawComesAboutAsOftenAsItsWeight(t *testing.T) {
	const times = 200000
	for _, l := range []int{2, 5, 20, 64} {
		table, d := soliton.Table(l), draw.New(uint32(l))
		counts := make([]int, l)
		for range times {
			k := soliton.Draw(table, d)
			if k < 1 || k > l {
				t.Fatalf("Draw of Table(%d) = %d", l, k)
			}
			counts[k-1]++
		}
		for i, w := range weights(table) {
			want := float64(times) * float64(w) / float64(table[l-1])
			if math.Abs(float64(counts[i])-want) > 6*math.Sqrt(want)+6 {
				t.Errorf("Draw of Table(%d): %d came %d times, want about %v", l, i+1, counts[i], want)
			}
		}
	}
}

// R3: a table that is handed in is neither modified nor kept

// roomy is a list with memory behind it, in which a mark is seen when it is gone.
func roomy(list []int) []int {
	room := make([]int, 0, len(list)+8)
	room = append(room, list...)
	for i := range room[len(list):cap(room)] {
		room[:cap(room)][len(list)+i] = -77
	}
	return room
}

func TestTheTableIsNotModified(t *testing.T) {
	eachTable(t, func(t *testing.T, l int, table []int) {
		room := roomy(table)
		d := draw.New(uint32(l))
		for _, x := range []int{-1, 0, table[0], table[l-1] - 1, table[l-1], math.MaxInt} {
			soliton.Degree(room, x)
			soliton.Draw(room, d)
			soliton.Draw(room, nil)
		}
		if !slices.Equal(room, sums(l)) {
			t.Errorf("a table of %d was modified: %v", l, room)
		}
		for _, mark := range room[l:cap(room)] {
			if mark != -77 {
				t.Errorf("what lies behind a table of %d was modified: %v", l, room[:cap(room)])
			}
		}
	})
}

// A list that is filled anew is looked at anew.
func TestTheTableIsNotKept(t *testing.T) {
	list := make([]int, 9)
	for l := 1; l <= api.MaxCols; l++ {
		list = append(list[:0], sums(l)...)
		d, other := draw.New(uint32(l)), draw.New(uint32(l))
		degreeIs(t, list, list[0], 2*min(l-1, 1))
		degreeIs(t, list, list[l-1]-1, l)
		if got, want := soliton.Draw(list, d), soliton.Degree(sums(l), other.Below(list[l-1])); got != want {
			t.Errorf("Draw of a list that was filled anew: %d, want %d", got, want)
		}
	}
	list = soliton.Table(5)
	soliton.Degree(list, 7)
	for i := range list {
		list[i] = i + 1 // one each
	}
	for x := range list {
		degreeIs(t, list, x, x+1)
	}
	degreeIs(t, list, len(list), 0)
}

// R3: what is returned is new memory each time

func TestTableIsNewMemory(t *testing.T) {
	for l := 1; l <= api.MaxCols; l++ {
		first, second := soliton.Table(l), soliton.Table(l)
		for _, list := range [][]int{first, first[:cap(first)]} {
			for i := range list {
				list[i] = -1
			}
		}
		if !slices.Equal(second, sums(l)) {
			t.Errorf("what was written into one Table(%d) is in another: %v", l, second)
		}
		if third := soliton.Table(l); !slices.Equal(third, sums(l)) {
			t.Errorf("what was written into one Table(%d) is in a later one: %v", l, third)
		}
	}
}

// Tables of several lengths, all of them held at once.
func TestTablesApart(t *testing.T) {
	var tables [][]int
	for l := 1; l <= api.MaxCols; l++ {
		tables = append(tables, soliton.Table(l))
	}
	for at, table := range tables {
		for i := range table[:cap(table)] {
			table[:cap(table)][i] = -1
		}
		for i, other := range tables[at+1:] {
			if l := at + i + 2; !slices.Equal(other, sums(l)) {
				t.Fatalf("what was written into Table(%d) is in Table(%d)", at+1, l)
			}
		}
	}
}

// R5: what is returned depends on what is handed in alone

func TestTheSameAgain(t *testing.T) {
	for range 3 {
		for l := api.MaxCols; l >= 1; l-- {
			soliton.Table(0)
			soliton.Table(api.MaxCols + 1)
			table := soliton.Table(l)
			if !slices.Equal(table, sums(l)) {
				t.Fatalf("Table(%d) is another one: %v", l, table)
			}
			first, second := draw.New(uint32(l)), draw.New(uint32(l))
			for range 20 {
				got := soliton.Draw(table, first)
				soliton.Draw(soliton.Table(3), draw.New(4)) // of another Draw
				soliton.Degree(nil, 0)
				if again := soliton.Draw(sums(l), second); got != again {
					t.Fatalf("Draw of Table(%d): %d, and then %d", l, got, again)
				}
			}
		}
	}
}

// Several at once, with one table among them and a Draw for each.
func TestManyAtOnce(t *testing.T) {
	shared := soliton.Table(40)
	var want []int
	for d := draw.New(5); len(want) < 500; {
		want = append(want, soliton.Draw(shared, d))
	}
	var wait sync.WaitGroup
	for range 8 {
		wait.Go(func() {
			var got []int
			for d := draw.New(5); len(got) < len(want); {
				got = append(got, soliton.Draw(shared, d))
			}
			if !slices.Equal(got, want) {
				t.Error("other degrees of the same seed")
			}
			for l := 1; l <= api.MaxCols; l++ {
				if !slices.Equal(soliton.Table(l), sums(l)) {
					t.Errorf("another Table(%d)", l)
				}
			}
		})
	}
	wait.Wait()
}

func Example() {
	table := soliton.Table(4)
	fmt.Println(table)
	fmt.Println(soliton.Degree(table, 0), soliton.Degree(table, table[0]), soliton.Degree(table, table[3]))
	d := draw.New(0)
	fmt.Println(soliton.Draw(table, d), soliton.Draw(table, d), soliton.Draw(nil, d), soliton.Draw(table, d))
	// Output:
	// [786432 2359296 2534058 2621439]
	// 1 2 0
	// 1 2 0 2
}
