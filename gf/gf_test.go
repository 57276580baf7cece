package gf_test

import (
	"fmt"
	"math"
	"sync"
	"testing"

	"wellspring/gf"
)

// product multiplies polynomials term by term and then divides by
// x^8 + x^4 + x^3 + x + 1: no table, so that it can tell whether one is wrong.
func product(a, b byte) byte {
	p := 0
	for i := range 8 {
		for j := range 8 {
			p ^= int(a>>i&1) * int(b>>j&1) << (i + j)
		}
	}
	for i := 14; i >= 8; i-- {
		if p>>i&1 == 1 {
			p ^= (1<<8 | 1<<4 | 1<<3 | 1<<1 | 1) << (i - 8)
		}
	}
	return byte(p)
}

// fields are those that must all answer alike.
func fields() map[string]*gf.Field {
	whole := gf.New()
	copied := *whole
	return map[string]*gf.Field{"new": whole, "copied": &copied, "nil": nil, "without tables": new(gf.Field)}
}

// eachField runs a test once for each of fields.
func eachField(t *testing.T, test func(t *testing.T, f *gf.Field)) {
	for name, f := range fields() {
		t.Run(name, func(t *testing.T) { test(t, f) })
	}
}

// P1.1

func TestAdd(t *testing.T) {
	eachField(t, func(t *testing.T, f *gf.Field) {
		for a := range 256 {
			for b := range 256 {
				if got := f.Add(byte(a), byte(b)); int(got) != a^b {
					t.Fatalf("Add(%d, %d) = %d, want %d", a, b, got, a^b)
				}
			}
		}
	})
}

func TestMul(t *testing.T) {
	eachField(t, func(t *testing.T, f *gf.Field) {
		for a := range 256 {
			for b := range 256 {
				want := product(byte(a), byte(b))
				if got := f.Mul(byte(a), byte(b)); got != want {
					t.Fatalf("Mul(%d, %d) = %d, want %d", a, b, got, want)
				}
			}
		}
	})
}

func TestMulWrittenOut(t *testing.T) {
	f := gf.New()
	for _, x := range [][3]byte{
		{2, 128, 27}, // the chapter's example
		{0, 0, 0}, {0, 255, 0}, {255, 0, 0},
		{1, 0xb7, 0xb7}, {0xb7, 1, 0xb7},
		{3, 3, 5}, {3, 0xff, 0x1a},
		{0x57, 0x83, 0xc1}, {0x53, 0xca, 1}, {0xff, 0xff, 0x13},
	} {
		if got := f.Mul(x[0], x[1]); got != x[2] {
			t.Errorf("Mul(%#x, %#x) = %#x, want %#x", x[0], x[1], got, x[2])
		}
	}
}

// P1.2

func TestInv(t *testing.T) {
	eachField(t, func(t *testing.T, f *gf.Field) {
		if got := f.Inv(0); got != 0 {
			t.Errorf("Inv(0) = %d, want 0", got)
		}
		for a := 1; a < 256; a++ {
			got := f.Inv(byte(a))
			if product(byte(a), got) != 1 {
				t.Errorf("Inv(%d) = %d, whose product with it is not 1", a, got)
			}
		}
	})
}

func TestDiv(t *testing.T) {
	eachField(t, func(t *testing.T, f *gf.Field) {
		for a := range 256 {
			for b := 1; b < 256; b++ {
				got, ok := f.Div(byte(a), byte(b))
				if !ok || product(got, byte(b)) != byte(a) {
					t.Fatalf("Div(%d, %d) = %d, %v, whose product with %d is not %d", a, b, got, ok, b, a)
				}
			}
		}
	})
}

func TestDivBy0(t *testing.T) {
	eachField(t, func(t *testing.T, f *gf.Field) {
		for a := range 256 {
			if got, ok := f.Div(byte(a), 0); got != 0 || ok {
				t.Fatalf("Div(%d, 0) = %d, %v, want 0, false", a, got, ok)
			}
		}
	})
}

func TestExpWrittenOut(t *testing.T) {
	eachField(t, func(t *testing.T, f *gf.Field) {
		for _, x := range []struct {
			n    int
			want byte
		}{
			{0, 1}, {1, 3}, {2, 5}, {3, 15}, {4, 17}, {254, 0xf6},
			{255, 1}, {256, 3}, {510, 1}, {511, 3},
			{-1, 0xf6}, {-2, 0x52}, {-254, 3}, {-255, 1}, {-256, 0xf6}, {-510, 1},
			{255 * 1000003, 1}, {255*1000003 + 2, 5}, {-255 * 1000003, 1}, {-255*1000003 - 1, 0xf6},
			{math.MaxInt32, 0xa0}, {math.MinInt32, 0xa0}, // both are 127, modulo 255
		} {
			if got := f.Exp(x.n); got != x.want {
				t.Errorf("Exp(%d) = %#x, want %#x", x.n, got, x.want)
			}
		}
	})
}

// Each power is the one before it times 3, wherever one begins.
func TestExpStepByStep(t *testing.T) {
	eachField(t, func(t *testing.T, f *gf.Field) {
		for _, from := range []int{-1000, 0, 1 << 20, -1 << 20, math.MaxInt - 1000, math.MinInt} {
			for n := from; n < from+1000; n++ {
				if got, want := f.Exp(n+1), product(3, f.Exp(n)); got != want {
					t.Fatalf("Exp(%d) = %d, want %d", n+1, got, want)
				}
			}
		}
	})
}

// The steps near the ends of int tell nothing of where they stand: 2^64 - 1
// and 2^32 - 1 are multiples of 255, so that the ends themselves are known.
func TestExpAtTheEndsOfInt(t *testing.T) {
	eachField(t, func(t *testing.T, f *gf.Field) {
		if got := product(f.Exp(math.MaxInt), f.Exp(-math.MaxInt)); got != 1 {
			t.Errorf("Exp of the greatest number and of its negative: product %d, want 1", got)
		}
		if got, want := f.Exp(math.MaxInt), f.Exp(math.MinInt); got != want {
			t.Errorf("Exp of the greatest number = %d, of the least %d, want the same", got, want)
		}
		if got := product(f.Exp(math.MaxInt), f.Exp(math.MaxInt)); got != 0xf6 {
			t.Errorf("Exp of the greatest number: square %#x, want Exp(-1), 0xf6", got)
		}
	})
}

func TestExpBelow0IsAPowerOfTheInverse(t *testing.T) {
	f := gf.New()
	want := byte(1)
	for n := 0; n < 600; n++ {
		if got := f.Exp(-n); got != want {
			t.Fatalf("Exp(%d) = %d, want %d", -n, got, want)
		}
		want = product(want, f.Inv(3))
	}
}

func TestLog(t *testing.T) {
	eachField(t, func(t *testing.T, f *gf.Field) {
		if n, ok := f.Log(0); n != 0 || ok {
			t.Errorf("Log(0) = %d, %v, want 0, false", n, ok)
		}
		power := byte(1)
		for want := range 255 {
			if n, ok := f.Log(power); n != want || !ok {
				t.Errorf("Log(%d) = %d, %v, want %d, true", power, n, ok, want)
			}
			power = product(power, 3)
		}
	})
}

// P1.3

func TestAdditionAndMultiplicationCommute(t *testing.T) {
	f := gf.New()
	for a := range 256 {
		for b := range 256 {
			x, y := byte(a), byte(b)
			if f.Add(x, y) != f.Add(y, x) || f.Mul(x, y) != f.Mul(y, x) {
				t.Fatal(a, b)
			}
		}
	}
}

func TestAssociativeAndDistributive(t *testing.T) {
	f := gf.New()
	for a := range 256 {
		for b := range 256 {
			x, y := byte(a), byte(b)
			sum, prod := f.Add(x, y), f.Mul(x, y)
			for c := range 256 {
				z := byte(c)
				if f.Add(sum, z) != f.Add(x, f.Add(y, z)) {
					t.Fatal("addition is not associative", a, b, c)
				}
				if f.Mul(prod, z) != f.Mul(x, f.Mul(y, z)) {
					t.Fatal("multiplication is not associative", a, b, c)
				}
				if f.Mul(sum, z) != f.Add(f.Mul(x, z), f.Mul(y, z)) {
					t.Fatal("multiplication does not distribute over addition", a, b, c)
				}
			}
		}
	}
}

func TestNeutralAndInverseElements(t *testing.T) {
	f := gf.New()
	for a := range 256 {
		x := byte(a)
		if f.Add(x, 0) != x || f.Mul(x, 1) != x || f.Add(x, x) != 0 {
			t.Fatal(a)
		}
		if a > 0 && f.Mul(x, f.Inv(x)) != 1 {
			t.Fatal(a)
		}
	}
}

// R5: a Field that was used, by several at once too, answers as a new one.
func TestUseChangesNothing(t *testing.T) {
	f := gf.New()
	before := *f
	var wait sync.WaitGroup
	for range 4 {
		wait.Go(func() {
			for a := range 256 {
				f.Div(byte(a), f.Exp(a-128))
				f.Log(f.Mul(byte(a), f.Add(byte(a), 7)))
			}
		})
	}
	wait.Wait()
	if *f != before || *f != *gf.New() {
		t.Error("the Field has changed")
	}
}

func TestNewFieldsAreTheirOwn(t *testing.T) {
	f, g := gf.New(), gf.New()
	if f == nil || f == g {
		t.Fatal(f, g)
	}
	*g = gf.Field{}
	if got := f.Mul(2, 128); got != 27 {
		t.Error(got)
	}
}

func ExampleField() {
	f := gf.New()
	quotient, ok := f.Div(27, 2)
	fmt.Println(f.Mul(2, 128), quotient, ok)
	// Output: 27 128 true
}
