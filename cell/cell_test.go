package cell_test

import (
	"bytes"
	"encoding/hex"
	"fmt"
	"hash/crc32"
	"math"
	"math/rand"
	"slices"
	"sync"
	"testing"

	"wellspring/api"
	"wellspring/cell"
)

// remainder is the CRC-32 of IEEE 802.3, bit by bit.
func remainder(b []byte) uint32 {
	sum := ^uint32(0)
	for _, x := range b {
		for i := range 8 {
			lowest := (sum ^ uint32(x)>>i) & 1
			sum = sum>>1 ^ lowest*0xedb88320
		}
	}
	return ^sum
}

// words is a cell by the words of chapter 16, whatever the kind, of a body that is not
// too long.
func words(kind byte, body []byte) []byte {
	b := []byte{0x57, 0x73, 1, kind}
	b = append(b, body...)
	for len(b) < 59 {
		b = append(b, 0)
	}
	return closed(b)
}

// closed is what stands ahead of the sum, with the sum and A5 behind.
func closed(b []byte) []byte {
	sum := remainder(b)
	b = append(slices.Clone(b), byte(sum), byte(sum>>8), byte(sum>>16), byte(sum>>24))
	return append(b, 0xa5)
}

// filled are bytes of a fixed seed, none of them 0.
func filled(seed int64, n int) []byte {
	r := rand.New(rand.NewSource(seed))
	b := make([]byte, n)
	for i := range b {
		b[i] = byte(1 + r.Intn(255))
	}
	return b
}

// padded is a body with bytes 0 up to its whole length.
func padded(body []byte) []byte {
	return append(slices.Clone(body), make([]byte, api.Body-len(body))...)
}

// cells are some of many kinds, of bodies of many lengths.
func cells() [][]byte {
	list := [][]byte{
		words(1, nil),
		words(255, bytes.Repeat([]byte{255}, api.Body)),
		words(0xa5, bytes.Repeat([]byte{0xa5}, api.Body)),
	}
	for i := range 12 {
		list = append(list, words(byte(1+i*23), filled(int64(i), i*5)))
	}
	return list
}

// noCell asserts that Take says false, and nothing else.
func noCell(t *testing.T, b []byte) {
	t.Helper()
	if kind, body, ok := cell.Take(b); kind != 0 || len(body) != 0 || ok {
		t.Fatalf("Take(%x) = %d, %x, %v, want none", b, kind, body, ok)
	}
}

// isCell asserts that Take tells this kind and this body.
func isCell(t *testing.T, b []byte, kind int, body []byte) {
	t.Helper()
	k, got, ok := cell.Take(b)
	if k != kind || !bytes.Equal(got, body) || !ok {
		t.Fatalf("Take(%x) = %d, %x, %v, want %d, %x", b, k, got, ok, kind, body)
	}
}

// P16.1: Put

func TestPutOfEachKindAndLength(t *testing.T) {
	for kind := -1; kind <= 257; kind++ {
		for n := range 70 {
			body := filled(int64(kind*100+n), n)
			got := cell.Put(kind, body)
			if kind < 1 || kind > 255 || n > 55 {
				if len(got) != 0 {
					t.Fatalf("Put(%d, %d bytes) = %x, want none", kind, n, got)
				}
				continue
			}
			if want := words(byte(kind), body); !bytes.Equal(got, want) {
				t.Fatalf("Put(%d, %x) = %x, want %x", kind, body, got, want)
			}
		}
	}
}

// Each part by itself.
func TestPutPartByPart(t *testing.T) {
	for kind := 1; kind < 256; kind += 2 {
		for n := range 56 {
			body := filled(int64(n), n)
			c := cell.Put(kind, body)
			if len(c) != 64 {
				t.Fatalf("Put(%d, %d bytes) has %d bytes, want 64", kind, n, len(c))
			}
			if !bytes.Equal(c[:4], []byte{87, 115, 1, byte(kind)}) {
				t.Fatalf("Put(%d, %d bytes) begins with %x", kind, n, c[:4])
			}
			if !bytes.Equal(c[4:4+n], body) {
				t.Fatalf("Put(%d, %x) has the body %x", kind, body, c[4:4+n])
			}
			if !bytes.Equal(c[4+n:59], make([]byte, 55-n)) {
				t.Fatalf("Put(%d, %d bytes) has %x behind the body", kind, n, c[4+n:59])
			}
			sum := crc32.ChecksumIEEE(c[:59])
			if got := uint32(c[59]) | uint32(c[60])<<8 | uint32(c[61])<<16 | uint32(c[62])<<24; got != sum {
				t.Fatalf("Put(%d, %d bytes) has the sum %08x, want %08x", kind, n, got, sum)
			}
			if c[63] != 165 {
				t.Fatalf("Put(%d, %d bytes) ends with %x", kind, n, c[63])
			}
		}
	}
}

func TestPutWrittenOut(t *testing.T) {
	for _, c := range []struct {
		kind int
		body string
		want string
	}{
		{1, "", "57730101" + zeros(55) + "726357ed" + "a5"},
		{2, "\x00\x00\x00", "57730102" + zeros(55) + "0b57e8cb" + "a5"},
		{255, "wellspring", "577301ff77656c6c737072696e67" + zeros(45) + "4c05a1b2" + "a5"},
	} {
		if got := hex.EncodeToString(cell.Put(c.kind, []byte(c.body))); got != c.want {
			t.Errorf("Put(%d, %q) = %s, want %s", c.kind, c.body, got, c.want)
		}
	}
}

// zeros are so many bytes 0, written out.
func zeros(n int) string { return hex.EncodeToString(make([]byte, n)) }

func TestPutOfNoBytes(t *testing.T) {
	want := words(1, nil)
	for _, body := range [][]byte{nil, {}, make([]byte, 0, 80), filled(1, 9)[4:4], {0}, make([]byte, 55)} {
		if got := cell.Put(1, body); !bytes.Equal(got, want) {
			t.Errorf("Put(1, %x) = %x, want %x", body, got, want)
		}
	}
}

// Bodies that begin or end with bytes 0, or have the bytes that mark a cell.
func TestPutOfZerosAndMarks(t *testing.T) {
	for _, body := range [][]byte{
		{0, 1}, {1, 0}, {0, 0, 7, 0, 0}, {0xa5}, {0x57, 0x73, 1}, {0x57, 0x73, 1, 9},
		append(make([]byte, 54), 0xa5), words(3, nil)[:55],
	} {
		got := cell.Put(7, body)
		if want := words(7, body); !bytes.Equal(got, want) {
			t.Errorf("Put(7, %x) = %x, want %x", body, got, want)
		}
		isCell(t, got, 7, padded(body))
	}
}

// Kinds that would be valid ones if cut to their lowest bits.
func TestPutOfKindsFarOutside(t *testing.T) {
	kinds := []int{math.MinInt, math.MaxInt, math.MinInt + 1, -255, -256, -257, 1000}
	for _, bits := range []int{8, 9, 16, 24, 31, 32, 33, 48, 62} {
		for _, low := range []int{0, 1, 2, 255} {
			kinds = append(kinds, 1<<bits+low, -1<<bits+low)
		}
	}
	for _, kind := range kinds {
		for _, body := range [][]byte{nil, {1}, filled(1, 55), filled(1, 56)} {
			if got := cell.Put(kind, body); len(got) != 0 {
				t.Errorf("Put(%d, %d bytes) = %x, want none", kind, len(body), got)
			}
		}
	}
}

// Lengths that would be valid ones if cut to their lowest bits, and bodies of bytes 0
// that are too long.
func TestPutOfLongBodies(t *testing.T) {
	for _, n := range []int{56, 57, 59, 60, 63, 64, 65, 119, 128, 255, 256, 257, 300, 65535, 65536, 65537, 1<<24 + 1} {
		if got := cell.Put(1, make([]byte, n)); len(got) != 0 {
			t.Errorf("Put(1, %d bytes) = %x, want none", n, got)
		}
		if got := cell.Put(0, make([]byte, n)); len(got) != 0 {
			t.Errorf("Put(0, %d bytes) = %x, want none", n, got)
		}
	}
}

// P16.1: Take

func TestTakeOfWhatPutReturns(t *testing.T) {
	for kind := 1; kind <= 255; kind++ {
		for n := range 56 {
			body := filled(int64(kind*100+n), n)
			isCell(t, cell.Put(kind, body), kind, padded(body))
		}
	}
}

// What is told, put again, is the same bytes.
func TestTakeAndPut(t *testing.T) {
	r := rand.New(rand.NewSource(16))
	for range 20_000 {
		body := make([]byte, r.Intn(56))
		r.Read(body)
		want := words(byte(1+r.Intn(255)), body)
		kind, got, ok := cell.Take(want)
		if !ok || len(got) != api.Body {
			t.Fatalf("Take(%x) = %d, %x, %v", want, kind, got, ok)
		}
		if again := cell.Put(kind, got); !bytes.Equal(again, want) {
			t.Fatalf("Put(Take(%x)) = %x", want, again)
		}
	}
}

// The words hold for kind 0 too, but Put returns none for it.
func TestTakeOfKind0(t *testing.T) {
	for n := range 56 {
		noCell(t, words(0, filled(int64(n), n)))
	}
}

func TestTakeOfEachLength(t *testing.T) {
	noCell(t, nil)
	for n := range 200 {
		noCell(t, make([]byte, n))
		noCell(t, filled(int64(n), n))
		noCell(t, bytes.Repeat([]byte{0xa5}, n))
		noCell(t, bytes.Repeat([]byte{0xff}, n))
	}
	noCell(t, make([]byte, 1<<24))
}

// Cut at the end, at the beginning and within; lengthened by bytes 0 or others.
func TestTakeOfCellsCutOrLengthened(t *testing.T) {
	for _, c := range cells() {
		for n := range 64 {
			noCell(t, c[:n])
			noCell(t, c[64-n:])
			noCell(t, slices.Delete(slices.Clone(c), n, n+1))
		}
		for place := range 65 {
			for _, x := range []byte{0, 1, 0x57, 0xa5, 0xff} {
				noCell(t, slices.Insert(slices.Clone(c), place, x))
			}
		}
		for n := 1; n < 130; n++ {
			noCell(t, append(slices.Clone(c), make([]byte, n)...))
			noCell(t, append(make([]byte, n), c...))
		}
		noCell(t, append(slices.Clone(c), c...))
		noCell(t, append(slices.Clone(c), make([]byte, 256)...))
		noCell(t, append(slices.Clone(c), make([]byte, 65536)...))
	}
}

// Cells by the words, but of bodies that are shorter or longer than Body.
func TestTakeOfOtherLengthsWithTheirSum(t *testing.T) {
	for n := range 120 {
		b := closed(append([]byte{0x57, 0x73, 1, 2}, filled(int64(n), n)...))
		if n == 55 {
			isCell(t, b, 2, b[4:59])
			continue
		}
		noCell(t, b)
	}
}

// Each byte with each other value: the sum of the bytes as they were doesn't match.
func TestTakeOfEachByteChanged(t *testing.T) {
	for _, c := range cells() {
		for place := range c {
			for x := 1; x < 256; x++ {
				b := slices.Clone(c)
				b[place] ^= byte(x)
				noCell(t, b)
			}
		}
	}
}

// Where the sum is made anew, changes of the kind and of the body are other cells; those
// of the first three bytes and of the last one are none.
func TestTakeOfEachByteChangedWithItsSum(t *testing.T) {
	for _, c := range cells() {
		for place := range 59 {
			for x := 1; x < 256; x++ {
				b := slices.Clone(c[:59])
				b[place] ^= byte(x)
				b = closed(b)
				if place < 3 || b[3] == 0 {
					noCell(t, b)
					continue
				}
				isCell(t, b, int(b[3]), b[4:59])
				b[63] ^= byte(x)
				noCell(t, b)
			}
		}
	}
}

// All first two bytes, and all third ones.
func TestTakeOfEachBeginningWithItsSum(t *testing.T) {
	for x := range 65536 {
		b := words(9, []byte{8, 7, 6})[:59]
		b[0], b[1] = byte(x), byte(x>>8)
		if b[0] == 0x57 && b[1] == 0x73 {
			isCell(t, closed(b), 9, b[4:])
			continue
		}
		noCell(t, closed(b))
	}
	for x := range 256 {
		b := words(9, []byte{8, 7, 6})[:59]
		b[2] = byte(x)
		if x == 1 {
			isCell(t, closed(b), 9, b[4:])
			continue
		}
		noCell(t, closed(b))
	}
}

// Sums that are another number's, or stand otherwise.
func TestTakeOfOtherSums(t *testing.T) {
	for _, c := range cells() {
		for _, sum := range []uint32{
			0, 0xffffffff, ^remainder(c[:59]), remainder(c[:59]) + 1, remainder(c[:59]) - 1,
			remainder(c[:58]), remainder(c[4:59]), remainder(c[3:59]), remainder(c[:60]),
			crc32.Checksum(c[:59], crc32.MakeTable(crc32.Castagnoli)),
		} {
			b := slices.Clone(c)
			for i := range 4 {
				b[59+i] = byte(sum >> (8 * i))
			}
			noCell(t, b)
		}
		b := slices.Clone(c)
		slices.Reverse(b[59:63])
		noCell(t, b)
		slices.Reverse(b[59:])
		noCell(t, b)
	}
}

// Two bytes exchanged, wherever they are.
func TestTakeOfBytesExchanged(t *testing.T) {
	for _, c := range cells() {
		for i := range c {
			for j := range i {
				b := slices.Clone(c)
				b[i], b[j] = b[j], b[i]
				if b[i] != b[j] {
					noCell(t, b)
				}
			}
		}
	}
}

func TestTakeOfBytesByChance(t *testing.T) {
	r := rand.New(rand.NewSource(17))
	for range 50_000 {
		b := make([]byte, 64)
		r.Read(b)
		noCell(t, b)
		copy(b, "\x57\x73\x01")
		b[63] = 0xa5
		noCell(t, b)
	}
}

// P16.2

func TestTakeOfTornCells(t *testing.T) {
	for kind := 1; kind < 256; kind++ {
		for n := 0; n < 56; n += 5 {
			c := cell.Put(kind, filled(int64(n), n))
			for written := range 64 {
				b := make([]byte, 64)
				copy(b, c[:written])
				noCell(t, b)
			}
			isCell(t, c, kind, c[4:59])
		}
	}
}

// Of cells of which the bytes ahead of the last are all there, only the last one tells.
func TestTakeOfEachLastByte(t *testing.T) {
	for _, c := range cells() {
		for x := range 256 {
			b := slices.Clone(c)
			b[63] = byte(x)
			if x == 0xa5 {
				isCell(t, b, int(c[3]), c[4:59])
				continue
			}
			noCell(t, b)
		}
	}
}

// Over what was there before: another cell, or bytes that are not 0.
func TestTakeOfCellsHalfOverOthers(t *testing.T) {
	list := cells()
	for i, c := range list {
		old := list[(i+1)%len(list)]
		for written := 4; written < 63; written++ {
			b := append(slices.Clone(c[:written]), old[written:]...)
			if !bytes.Equal(b, c) && !bytes.Equal(b, old) {
				noCell(t, b)
			}
		}
	}
}

// T5

// spoilt asserts that a cell with the bits of the pattern, the lowest first, inverted
// from a place on is none.
func spoilt(t *testing.T, c []byte, place int, pattern uint32) {
	t.Helper()
	b := slices.Clone(c)
	for i := range 32 {
		if pattern>>i&1 == 1 {
			b[(place+i)/8] ^= 1 << ((place + i) % 8)
		}
	}
	noCell(t, b)
}

func TestTakeOfBitsInverted(t *testing.T) {
	r := rand.New(rand.NewSource(18))
	for _, c := range cells() {
		for width := 1; width <= 32; width++ {
			ends := uint32(1) | 1<<(width-1)
			all := uint32(1<<width - 1)
			for place := range 512 - width + 1 {
				for _, pattern := range []uint32{ends, all, ends | all&r.Uint32(), ends | all&r.Uint32()} {
					spoilt(t, c, place, pattern)
				}
			}
		}
	}
}

// All patterns of few bits, at each place.
func TestTakeOfFewBitsInverted(t *testing.T) {
	for _, c := range cells()[:5] {
		for pattern := uint32(1); pattern < 512; pattern += 2 {
			for place := range 504 {
				spoilt(t, c, place, pattern)
			}
		}
	}
}

// At most four consecutive bytes, once each, at the end of the cell too.
func TestTakeOfFourBytesSpoilt(t *testing.T) {
	r := rand.New(rand.NewSource(19))
	for _, c := range cells() {
		for at := range 61 {
			for range 60 {
				spoilt(t, c, 8*at, 1|r.Uint32())
			}
			spoilt(t, c, 8*at, 0xffffffff)
			spoilt(t, c, 8*at, 0xff000000)
		}
	}
}

// R1, R3, R5

func TestPutDoesNotModify(t *testing.T) {
	for n := range 70 {
		whole := filled(int64(n), n+90)
		kept := slices.Clone(whole)
		for _, kind := range []int{-1, 0, 1, 255, 256} {
			cell.Put(kind, whole[5:5+n])
			cell.Put(kind, whole[5:5+n:5+n])
		}
		if !bytes.Equal(whole, kept) {
			t.Fatalf("Put of %d bytes changed %x to %x", n, kept, whole)
		}
	}
}

func TestTakeDoesNotModify(t *testing.T) {
	for _, c := range cells() {
		for n := range 80 {
			whole := append(append(filled(3, 7), c...), filled(4, 80)...)
			kept := slices.Clone(whole)
			cell.Take(whole[7 : 7+n])
			cell.Take(whole[7 : 7+n : 7+n])
			if !bytes.Equal(whole, kept) {
				t.Fatalf("Take of %d bytes changed %x to %x", n, kept, whole)
			}
		}
	}
}

// What is returned is overwritten, to the end of its memory: nothing else changes.
func TestPutReturnsNewMemory(t *testing.T) {
	for n := range 56 {
		body := filled(int64(n), n)
		kept := slices.Clone(body)
		want := words(5, body)
		one, two := cell.Put(5, body), cell.Put(5, body)
		overwrite(one)
		if !bytes.Equal(body, kept) || !bytes.Equal(two, want) || !bytes.Equal(cell.Put(5, body), want) {
			t.Fatalf("%d bytes: what Put returned shares memory", n)
		}
		overwrite(body)
		if !bytes.Equal(two, want) {
			t.Fatalf("%d bytes: Put has kept the body", n)
		}
	}
}

func TestTakeReturnsNewMemory(t *testing.T) {
	for _, c := range cells() {
		kept := slices.Clone(c)
		_, one, _ := cell.Take(c)
		kind, two, _ := cell.Take(c)
		overwrite(one)
		if !bytes.Equal(c, kept) || !bytes.Equal(two, kept[4:59]) {
			t.Fatalf("%x: what Take returned shares memory", kept)
		}
		isCell(t, c, kind, kept[4:59])
		overwrite(c)
		if !bytes.Equal(two, kept[4:59]) {
			t.Fatalf("%x: Take has kept the bytes", kept)
		}
	}
}

// overwrite changes each byte, and those that there is room for behind them.
func overwrite(b []byte) {
	b = b[:cap(b)]
	for i := range b {
		b[i] ^= 0x3c
	}
}

// Neither where the bytes lie nor what lies about them counts.
func TestOfWhatIsGivenAlone(t *testing.T) {
	for _, c := range cells() {
		for at := range 20 {
			whole := append(append(filled(int64(at), at), c...), filled(int64(at), at)...)
			isCell(t, whole[at:at+64], int(c[3]), c[4:59])
			if got := cell.Put(int(c[3]), whole[at+4:at+59]); !bytes.Equal(got, c) {
				t.Fatalf("Put(%d, %x) = %x, want %x", c[3], c[4:59], got, c)
			}
		}
	}
}

// What was asked before does not count.
func TestTheSameAgain(t *testing.T) {
	for range 3 {
		for kind := -1; kind < 300; kind += 7 {
			for n := 50; n < 60; n++ {
				body := filled(int64(n), n)
				first, again := cell.Put(kind, body), cell.Put(kind, body)
				if !bytes.Equal(first, again) {
					t.Fatalf("Put(%d, %x) = %x, and once more %x", kind, body, first, again)
				}
				noCell(t, body)
				if len(first) > 0 {
					isCell(t, first, kind, first[4:59])
					isCell(t, first, kind, first[4:59])
				}
			}
		}
	}
}

func TestManyAtOnce(t *testing.T) {
	list := cells()
	var all sync.WaitGroup
	for range 16 {
		all.Go(func() {
			for _, c := range list {
				kind, body, ok := cell.Take(c)
				if !ok || !bytes.Equal(cell.Put(kind, body), c) {
					t.Errorf("Take(%x) = %d, %x, %v", c, kind, body, ok)
				}
			}
		})
	}
	all.Wait()
}

func ExamplePut() {
	fmt.Println(len(cell.Put(1, nil)))
	// Output: 64
}

func ExampleTake() {
	kind, body, ok := cell.Take(cell.Put(2, []byte("drop")))
	fmt.Printf("%d %q %d %v\n", kind, body[:5], len(body), ok)
	// Output: 2 "drop\x00" 55 true
}
