// Package gf is the finite field of 256 elements: see chapter 1.
package gf

// order is after how many powers of 3 they begin again: as many as there are
// elements other than 0, because each of these is a power of 3.
const order = 255

// Field holds the tables by which products become sums of logarithms. Nothing
// changes them after New, so one Field may be used in many places at once.
type Field struct {
	powers [order]byte
	logs   [order + 1]byte
}

// New returns a Field with its tables made.
func New() *Field {
	p := powers()
	return &Field{powers: p, logs: logs(p)}
}

// powers makes the table of 3^n, from n = 0 on.
func powers() [order]byte {
	var t [order]byte
	x := byte(1)
	n := 0
round:
	t[n] = x
	x = triple(x)
	n++
	if n < order {
		goto round
	}
	return t
}

// triple multiplies by 3, the polynomial x + 1. It stands apart from Mul
// because the tables that Mul needs are made with it.
func triple(a byte) byte {
	double := a << 1
	if a >= 0x80 {
		double ^= 0x1b // the shift lost x^8, which is x^4 + x^3 + x + 1
	}
	return double ^ a
}

// logs makes the table that undoes powers. Its element for 0, which is no
// power, stays 0 and must not be used.
func logs(power [order]byte) [order + 1]byte {
	var t [order + 1]byte
	for n, x := range power {
		t[x] = byte(n)
	}
	return t
}

// made stands in for a Field without tables (nil, or not made by New), so that
// it answers as every other. 3^0 is 1 in every table that was made.
func (f *Field) made() *Field {
	if f == nil || f.powers[0] == 0 {
		return New()
	}
	return f
}

// Add returns the sum of a and b.
func (f *Field) Add(a, b byte) byte {
	return a ^ b
}

// Mul returns the product of a and b.
func (f *Field) Mul(a, b byte) byte {
	if a == 0 || b == 0 {
		return 0
	}
	f = f.made()
	return f.powers[(int(f.logs[a])+int(f.logs[b]))%order]
}

// Inv returns the byte whose product with a is 1, and 0 for 0.
func (f *Field) Inv(a byte) byte {
	if a == 0 {
		return 0
	}
	f = f.made()
	return f.powers[(order-int(f.logs[a]))%order]
}

// Div returns a divided by b, and false if b is 0.
func (f *Field) Div(a, b byte) (byte, bool) {
	if b == 0 {
		return 0, false
	}
	f = f.made()
	return f.Mul(a, f.Inv(b)), true
}

// Exp returns 3^n, for n below 0 too.
func (f *Field) Exp(n int) byte {
	n %= order
	if n < 0 {
		n += order // % has the sign of n
	}
	return f.made().powers[n]
}

// Log returns the n from 0 to 254 for which Exp(n) is a, and false if a is 0.
func (f *Field) Log(a byte) (int, bool) {
	if a == 0 {
		return 0, false
	}
	return int(f.made().logs[a]), true
}
