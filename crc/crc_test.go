package crc_test

import (
	"bytes"
	"encoding/binary"
	"fmt"
	"hash/crc32"
	"math/rand"
	"slices"
	"strings"
	"sync"
	"testing"

	"wellspring/crc"
)

// powers are those of the polynomial of IEEE 802.3 below its greatest one, which is
// x^32.
var powers = []int{26, 23, 22, 16, 12, 11, 10, 8, 7, 5, 4, 2, 1, 0}

// remainder is the sum by the definition: the bits, of each byte the lowest first and
// the first 32 of them inverted, are the coefficients of a polynomial, the greatest
// power first. Multiplied by x^32 it is divided by the polynomial. What remains,
// inverted, is the sum, its greatest power as its lowest bit.
func remainder(b []byte) uint32 {
	bits := make([]byte, 8*len(b)+32)
	for i := range 8 * len(b) {
		bits[i] = b[i/8] >> (i % 8) & 1
	}
	for i := range 32 {
		bits[i] ^= 1
	}
	for i := range 8 * len(b) {
		if bits[i] == 0 {
			continue
		}
		bits[i] = 0
		for _, power := range powers {
			bits[i+32-power] ^= 1
		}
	}
	sum := uint32(0)
	for i, bit := range bits[8*len(b):] {
		sum |= uint32(bit^1) << i
	}
	return sum
}

// stepped is the sum by the words of chapter 15, bit by bit: as remainder, but fast
// enough for long strings.
func stepped(b []byte) uint32 {
	sum := uint32(0xffffffff)
	for _, x := range b {
		for i := range 8 {
			lowest := (sum ^ uint32(x)>>i) & 1
			sum >>= 1
			if lowest == 1 {
				sum ^= 0xedb88320
			}
		}
	}
	return sum ^ 0xffffffff
}

// random are bytes of a fixed seed.
func random(seed int64, n int) []byte {
	b := make([]byte, n)
	rand.New(rand.NewSource(seed)).Read(b)
	return b
}

// sumIs holds what Sum returns against the division.
func sumIs(t *testing.T, b []byte) {
	t.Helper()
	if got, want := crc.Sum(b), remainder(b); got != want {
		t.Fatalf("Sum(%x) = %08x, want %08x", b, got, want)
	}
}

// P15.1

func TestSumOfTheExample(t *testing.T) {
	if got := crc.Sum([]byte("123456789")); got != 0xcbf43926 {
		t.Errorf("Sum of 123456789 = %08x, want cbf43926", got)
	}
}

func TestSumOfNoBytes(t *testing.T) {
	for _, b := range [][]byte{nil, {}, make([]byte, 0, 9), []byte("123456789")[4:4]} {
		if got := crc.Sum(b); got != 0 {
			t.Errorf("Sum of no bytes = %08x, want 0", got)
		}
	}
}

// Values that are published.
func TestSumWrittenOut(t *testing.T) {
	for _, c := range []struct {
		text string
		want uint32
	}{
		{"a", 0xe8b7be43},
		{"abc", 0x352441c2},
		{"test", 0xd87f7e0c},
		{"hello world", 0x0d4a1185},
		{"Hello, World!", 0xec4ac3d0},
		{"message digest", 0x20159d7f},
		{"abcdefghijklmnopqrstuvwxyz", 0x4c2750bd},
		{"ABCDEFGHIJKLMNOPQRSTUVWXYZabcdefghijklmnopqrstuvwxyz0123456789", 0x1fc2e6d2},
		{strings.Repeat("1234567890", 8), 0x7ca94a72},
		{"The quick brown fox jumps over the lazy dog", 0x414fa339},
		{"The quick brown fox jumps over the lazy dog.", 0x519025e9},
		{"\x00", 0xd202ef8d},
		{"\x01", 0xa505df1b},
		{"\x80", 0x3fba6cad},
		{"\xff", 0xff000000},
		{"\x00\x00", 0x41d912ff},
		{"\xff\xff", 0xffff0000},
		{"\x00\x00\x00", 0xff41d912},
		{"\xff\xff\xff", 0xffffff00},
		{"\x00\x00\x00\x00", 0x2144df1c},
		{"\xff\xff\xff\xff", 0xffffffff},
		{strings.Repeat("\x00", 32), 0x190a55ad},
		{strings.Repeat("\xff", 32), 0xff6cab0b},
	} {
		if got := crc.Sum([]byte(c.text)); got != c.want {
			t.Errorf("Sum(%q) = %08x, want %08x", c.text, got, c.want)
		}
	}
}

func TestSumOfEachByte(t *testing.T) {
	for x := range 256 {
		sumIs(t, []byte{byte(x)})
	}
}

func TestSumOfEachTwoBytes(t *testing.T) {
	for x := range 65536 {
		sumIs(t, []byte{byte(x), byte(x >> 8)})
	}
}

// Each byte at each place among others.
func TestSumOfEachByteAtEachPlace(t *testing.T) {
	for _, n := range []int{3, 8, 59} {
		b := random(int64(n), n)
		for place := range b {
			for x := range 256 {
				b[place] = byte(x)
				sumIs(t, b)
			}
		}
	}
}

func TestSumOfEachLength(t *testing.T) {
	for n := range 600 {
		for seed := range int64(4) {
			sumIs(t, random(seed*1000+int64(n), n))
		}
		for _, x := range []byte{0, 1, 128, 255, 0xa5} {
			sumIs(t, bytes.Repeat([]byte{x}, n))
		}
	}
}

// A single bit in zeros, and a single zero in ones, at each place.
func TestSumOfEachBit(t *testing.T) {
	for _, n := range []int{1, 4, 5, 64} {
		for place := range 8 * n {
			zeros, ones := make([]byte, n), bytes.Repeat([]byte{255}, n)
			flip(zeros, place)
			flip(ones, place)
			sumIs(t, zeros)
			sumIs(t, ones)
		}
	}
}

func TestSumOfLongStrings(t *testing.T) {
	for power := 10; power <= 20; power++ {
		for d := -1; d <= 1; d++ {
			b := random(int64(power*3+d), 1<<power+d)
			got := crc.Sum(b)
			if want := stepped(b); got != want {
				t.Fatalf("Sum of %d bytes = %08x, want %08x", len(b), got, want)
			}
			if want := crc32.ChecksumIEEE(b); got != want {
				t.Fatalf("Sum of %d bytes = %08x, and hash/crc32 says %08x", len(b), got, want)
			}
		}
	}
}

func TestSumOfAVeryLongString(t *testing.T) {
	for _, n := range []int{1<<24 - 1, 1<<24 + 5} {
		b := random(int64(n), n)
		if got, want := crc.Sum(b), crc32.ChecksumIEEE(b); got != want {
			t.Fatalf("Sum of %d bytes = %08x, want %08x", n, got, want)
		}
	}
}

// What this file holds Sum against is the same, in whichever way it is worked out.
func TestDefinitions(t *testing.T) {
	for n := range 300 {
		b := random(int64(n), n)
		one, two, three := remainder(b), stepped(b), crc32.ChecksumIEEE(b)
		if one != two || two != three {
			t.Fatalf("of %x: %08x, %08x, %08x", b, one, two, three)
		}
	}
}

// P15.2

// flip inverts a bit, of each byte the lowest first.
func flip(b []byte, place int) { b[place/8] ^= 1 << (place % 8) }

// summed is b followed by its sum, the lowest byte first.
func summed(b []byte) []byte {
	return binary.LittleEndian.AppendUint32(slices.Clone(b), crc.Sum(b))
}

// matches reports whether the last four bytes are the sum of those ahead.
func matches(b []byte) bool {
	at := len(b) - 4
	return crc.Sum(b[:at]) == binary.LittleEndian.Uint32(b[at:])
}

// flipped asserts that the sum doesn't match once the bits of the pattern, the lowest
// first, are inverted from a place on. It undoes this then.
func flipped(t *testing.T, b []byte, place int, pattern uint32) {
	t.Helper()
	invert(b, place, pattern)
	if matches(b) {
		t.Fatalf("%d bytes, inverted from bit %d on by %032b: the sum still matches", len(b), place, pattern)
	}
	invert(b, place, pattern)
}

func invert(b []byte, place int, pattern uint32) {
	for i := range 32 {
		if pattern>>i&1 == 1 {
			flip(b, place+i)
		}
	}
}

// patterns begin and end with an inverted bit, so many bits apart: these alone, all
// that lie between too, and some by chance.
func patterns(r *rand.Rand, width, some int) []uint32 {
	ends := uint32(1) | 1<<(width-1)
	all := uint32(1<<width - 1)
	list := []uint32{ends, all, ends | all&0x55555555, ends | all&0xaaaaaaaa}
	for range some {
		list = append(list, ends|all&r.Uint32())
	}
	return list
}

func TestSumMatches(t *testing.T) {
	for n := range 200 {
		if !matches(summed(random(int64(n), n))) {
			t.Fatalf("%d bytes: the sum doesn't match", n)
		}
	}
}

// All patterns of few bits, at each place.
func TestSumTellsShortPatterns(t *testing.T) {
	for n := range 10 {
		b := summed(random(int64(n), n))
		for pattern := uint32(1); pattern < 512; pattern += 2 {
			for place := range 8*len(b) - 8 {
				flipped(t, b, place, pattern)
			}
		}
	}
}

func TestSumTellsEachBit(t *testing.T) {
	for _, n := range []int{0, 1, 2, 3, 4, 5, 8, 59, 64, 255, 600} {
		b := summed(random(int64(n), n))
		for place := range 8 * len(b) {
			flipped(t, b, place, 1)
		}
	}
}

// Patterns of each width, at each place of short strings, those of the sum's own
// bytes among them.
func TestSumTellsEachWidth(t *testing.T) {
	r := rand.New(rand.NewSource(15))
	for _, n := range []int{0, 1, 2, 3, 4, 5, 7, 12, 28, 59} {
		for _, b := range [][]byte{
			summed(random(int64(n), n)), summed(make([]byte, n)), summed(bytes.Repeat([]byte{255}, n)),
		} {
			for width := 1; width <= 32; width++ {
				for place := range 8*len(b) - width + 1 {
					for _, pattern := range patterns(r, width, 2) {
						flipped(t, b, place, pattern)
					}
				}
			}
		}
	}
}

func TestSumTells32InARow(t *testing.T) {
	for n := range 130 {
		b := summed(random(int64(n), n))
		for place := range 8*len(b) - 31 {
			flipped(t, b, place, 0xffffffff)
		}
	}
}

// Whatever is done to the four bytes of the sum alone.
func TestSumTellsWhatIsDoneToItself(t *testing.T) {
	r := rand.New(rand.NewSource(16))
	for _, n := range []int{0, 1, 9, 59, 4096} {
		b := summed(random(int64(n), n))
		for range 2000 {
			if pattern := r.Uint32(); pattern != 0 {
				flipped(t, b, 8*n, pattern)
			}
		}
	}
}

func TestSumTellsAtManyPlacesOfLongStrings(t *testing.T) {
	r := rand.New(rand.NewSource(17))
	for _, n := range []int{1000, 4097, 65536, 100_000} {
		b := summed(random(int64(n), n))
		for i := range 400_000 / n * 32 {
			width := 1 + i%32
			place := r.Intn(8*len(b) - width + 1)
			switch i / 32 % 8 {
			case 0:
				place = 8*len(b) - width // the end of the sum
			case 1:
				place = 8*n - width/2 // across its beginning
			case 2:
				place = 0
			}
			flipped(t, b, place, patterns(r, width, 1)[r.Intn(5)])
		}
	}
}

// R1, R3, R5

func TestSumDoesNotModify(t *testing.T) {
	for n := range 100 {
		whole := random(int64(n), n+40)
		kept := slices.Clone(whole)
		crc.Sum(whole[7 : 7+n])
		crc.Sum(whole[7 : 7+n : 7+n])
		if !bytes.Equal(whole, kept) {
			t.Fatalf("Sum of %d bytes changed %x to %x", n, kept, whole)
		}
	}
}

// Neither where the bytes lie nor what lies about them counts.
func TestSumOfWhatIsGivenAlone(t *testing.T) {
	for n := range 70 {
		want := crc.Sum(random(5, n))
		for at := range 20 {
			whole := random(int64(at), at+n+at)
			copy(whole[at:], random(5, n))
			if got := crc.Sum(whole[at : at+n]); got != want {
				t.Fatalf("Sum of %d bytes = %08x, and at another place %08x", n, want, got)
			}
		}
	}
}

// What was asked before does not count, nor what became of the bytes since.
func TestTheSameAgain(t *testing.T) {
	first := map[int]uint32{}
	for range 3 {
		for n := range 200 {
			b := random(int64(n), n)
			got := crc.Sum(b)
			if want, ok := first[n]; ok && got != want {
				t.Fatalf("Sum of %d bytes = %08x, and once more %08x", n, want, got)
			}
			first[n] = got
			clear(b)
			crc.Sum(b)
		}
	}
}

func TestManyAtOnce(t *testing.T) {
	b := random(18, 5000)
	want := remainder(b)
	var all sync.WaitGroup
	for range 16 {
		all.Go(func() {
			for range 20 {
				if got := crc.Sum(b); got != want {
					t.Errorf("Sum = %08x, want %08x", got, want)
				}
			}
		})
	}
	all.Wait()
}

func Example() {
	fmt.Printf("%X\n", crc.Sum([]byte("123456789")))
	// Output: CBF43926
}
