package record_test

import (
	"bytes"
	"encoding/hex"
	"fmt"
	"hash/crc32"
	"math"
	"math/rand"
	"reflect"
	"slices"
	"strings"
	"sync"
	"testing"

	"wellspring/api"
	"wellspring/cell"
	"wellspring/record"
)

// filled are bytes of a fixed seed, none of them 0.
func filled(seed int64, n int) []byte {
	r := rand.New(rand.NewSource(seed))
	b := make([]byte, n)
	for i := range b {
		b[i] = byte(1 + r.Intn(255))
	}
	return b
}

// whole is a cell of a kind and all the 55 bytes of its body, by the words of chapter 16.
func whole(kind byte, body []byte) []byte {
	return closed(append([]byte{0x57, 0x73, 1, kind}, body...))
}

// closed is what stands ahead of the sum, with the sum and A5 behind.
func closed(b []byte) []byte {
	sum := crc32.ChecksumIEEE(b)
	return append(slices.Clone(b), byte(sum), byte(sum>>8), byte(sum>>16), byte(sum>>24), 0xa5)
}

// padded is a body with bytes 0 up to its whole length.
func padded(body []byte) []byte {
	return append(slices.Clone(body), make([]byte, 55-len(body))...)
}

// body is the body of a record by the words of the chapter, number by number in hex.
func body(r api.Record) []byte {
	head := fmt.Sprintf("%06x%02x%04x%02x%02x%02x%08x", r.Object, r.Block, r.ID, r.P.K, r.P.H, r.P.Size, r.Seed)
	b, err := hex.DecodeString(head)
	if err != nil || len(b) != 13 {
		panic("not a record that is valid")
	}
	return padded(append(b, r.Data...))
}

// words is the cell of a record by the words of the chapter.
func words(r api.Record) []byte { return whole(1, body(r)) }

// told is what a cell tells by the words of the chapters, and whether it is one.
func told(b []byte) (api.Record, bool) {
	if len(b) != 64 || !bytes.Equal(whole(1, b[4:59]), b) {
		return api.Record{}, false
	}
	d := b[4:]
	r := api.Record{
		Object: int(d[0])*65536 + int(d[1])*256 + int(d[2]),
		Block:  int(d[3]),
		ID:     int(d[4])*256 + int(d[5]),
		P:      api.Params{K: int(d[6]), H: int(d[7]), Size: int(d[8])},
		Seed:   uint32(d[9])*16777216 + uint32(d[10])*65536 + uint32(d[11])*256 + uint32(d[12]),
	}
	if r.Block > 7 || r.P.K < 1 || r.P.K > 16 || r.P.H < 1 || r.P.H > 4 || r.P.Size < 1 || r.P.Size > 24 {
		return api.Record{}, false
	}
	if slices.Max(d[13+r.P.Size:55]) != 0 {
		return api.Record{}, false
	}
	r.Data = slices.Clone(d[13 : 13+r.P.Size])
	return r, true
}

// middle is a record with each part between its bounds, and no byte the same.
func middle() api.Record {
	return api.Record{
		Object: 0x123456, Block: 5, ID: 0x789a, P: api.Params{K: 9, H: 3, Size: 11}, Seed: 0xbcdef021,
		Data: []byte{0x31, 0x42, 0x53, 0x64, 0x75, 0x86, 0x97, 0xa8, 0xb9, 0xca, 0xdb},
	}
}

func least() api.Record {
	return api.Record{P: api.Params{K: 1, H: 1, Size: 1}, Data: []byte{0}}
}

func greatest() api.Record {
	return api.Record{
		Object: 16777215, Block: 7, ID: 65535, P: api.Params{K: 16, H: 4, Size: 24}, Seed: 4294967295,
		Data: bytes.Repeat([]byte{255}, 24),
	}
}

// records are the least, the greatest, some between, and each of them with each part by
// itself at its bounds and between.
func records() []api.Record {
	var list []api.Record
	for _, r := range []api.Record{least(), middle(), greatest()} {
		list = append(list, r)
		list = append(list, withNumbers(r)...)
		list = append(list, withData(r)...)
	}
	return list
}

// withNumbers are a record with other numbers, one at a time.
func withNumbers(r api.Record) []api.Record {
	var list []api.Record
	with := func(change func(*api.Record)) {
		other := copied(r)
		change(&other)
		list = append(list, other)
	}
	for _, n := range []int{0, 1, 255, 256, 257, 65535, 65536, 0x010203, 0x800000, 16777214, 16777215} {
		with(func(r *api.Record) { r.Object = n })
	}
	for n := range 8 {
		with(func(r *api.Record) { r.Block = n })
	}
	for _, n := range []int{0, 1, 127, 128, 255, 256, 257, 0x0102, 32767, 32768, 65534, 65535} {
		with(func(r *api.Record) { r.ID = n })
	}
	for n := range 16 {
		with(func(r *api.Record) { r.P.K = n + 1 })
	}
	for n := range 4 {
		with(func(r *api.Record) { r.P.H = n + 1 })
	}
	for _, n := range []uint32{0, 1, 255, 256, 65535, 65536, 0x01020304, 1<<24 - 1, 1 << 24, 1<<31 - 1, 1 << 31, 1<<32 - 2, 1<<32 - 1} {
		with(func(r *api.Record) { r.Seed = n })
	}
	return list
}

// withData are a record with each Size, and with data of several kinds.
func withData(r api.Record) []api.Record {
	var list []api.Record
	for size := 1; size <= 24; size++ {
		for _, data := range [][]byte{
			filled(int64(size), size), make([]byte, size), bytes.Repeat([]byte{255}, size),
			append(make([]byte, size-1), 1), append([]byte{1}, make([]byte, size-1)...),
		} {
			other := r
			other.P.Size, other.Data = size, data
			list = append(list, other)
		}
	}
	return list
}

// chance is a valid record by chance.
func chance(r *rand.Rand) api.Record {
	p := api.Params{K: 1 + r.Intn(16), H: 1 + r.Intn(4), Size: 1 + r.Intn(24)}
	data := make([]byte, p.Size)
	r.Read(data)
	return api.Record{Object: r.Intn(1 << 24), Block: r.Intn(8), ID: r.Intn(65536), P: p, Seed: r.Uint32(), Data: data}
}

// copied is a record with data of its own.
func copied(r api.Record) api.Record {
	r.Data = slices.Clone(r.Data)
	return r
}

// equal reports whether two records are the same in each part.
func equal(a, b api.Record) bool {
	return a.Object == b.Object && a.Block == b.Block && a.ID == b.ID && a.P == b.P && a.Seed == b.Seed &&
		bytes.Equal(a.Data, b.Data)
}

// numbersOutside are some just below least and just above most, some far outside, and
// some that would be within if cut to their lowest bits.
func numbersOutside(least, most int) []int {
	list := []int{
		least - 1, most + 1, least - 2, most + 2, -1000, most + 1000, -least - 1, -most - 1,
		math.MinInt, math.MinInt + 1, math.MaxInt, math.MaxInt - 1, math.MinInt32, 1 << 40,
	}
	for _, bits := range []int{8, 16, 24, 31, 32, 33, 48, 56, 62} {
		for _, low := range []int{least, most, (least + most) / 2} {
			for _, n := range []int{low + 1<<bits, low - 1<<bits} {
				if n < least || n > most {
					list = append(list, n)
				}
			}
		}
	}
	return list
}

// outside are records with one part outside its bounds.
func outside() []api.Record {
	var list []api.Record
	for _, r := range []api.Record{least(), middle(), greatest()} {
		with := func(least, most int, change func(*api.Record, int)) {
			for _, n := range numbersOutside(least, most) {
				other := copied(r)
				change(&other, n)
				list = append(list, other)
			}
		}
		with(0, 16777215, func(r *api.Record, n int) { r.Object = n })
		with(0, 7, func(r *api.Record, n int) { r.Block = n })
		with(0, 65535, func(r *api.Record, n int) { r.ID = n })
		with(1, 16, func(r *api.Record, n int) { r.P.K = n })
		with(1, 4, func(r *api.Record, n int) { r.P.H = n })
		with(1, 24, func(r *api.Record, n int) { r.P.Size = n })
		list = append(list, sizesOutside(r)...)
		list = append(list, dataOutside(r)...)
	}
	return list
}

// sizesOutside are records whose data has Size bytes, which is outside its bounds.
func sizesOutside(r api.Record) []api.Record {
	var list []api.Record
	for _, size := range []int{0, 25, 26, 41, 42, 43, 55, 56, 255, 256, 257, 280, 65536, 65540} {
		r.P.Size, r.Data = size, make([]byte, size)
		list = append(list, r)
	}
	return list
}

// dataOutside are records with more or fewer bytes than Size.
func dataOutside(r api.Record) []api.Record {
	var list []api.Record
	for size := 1; size <= 24; size++ {
		for _, n := range []int{0, 1, size - 1, size + 1, 2 * size, 23, 24, 25, 42, 43, 55, size + 256, size + 65536} {
			if n != size {
				r.P.Size, r.Data = size, make([]byte, n)
				list = append(list, r)
			}
		}
		r.P.Size, r.Data = size, nil
		list = append(list, r)
	}
	return list
}

// noRecord asserts that Take says false, and nothing else.
func noRecord(t *testing.T, b []byte) {
	t.Helper()
	if r, ok := record.Take(b); ok || len(r.Data) != 0 || !equal(r, api.Record{}) {
		t.Fatalf("Take(%x) = %+v, %v, want none", b, r, ok)
	}
}

// isRecord asserts that Take tells this record.
func isRecord(t *testing.T, b []byte, want api.Record) {
	t.Helper()
	if r, ok := record.Take(b); !ok || !equal(r, want) {
		t.Fatalf("Take(%x) = %+v, %v, want %+v", b, r, ok, want)
	}
}

// asTold asserts that Take tells what the bytes tell by the words, and that this, put
// again, is the same bytes.
func asTold(t *testing.T, b []byte) {
	t.Helper()
	want, ok := told(b)
	if !ok {
		noRecord(t, b)
		return
	}
	isRecord(t, b, want)
	r, _ := record.Take(b)
	if again := record.Put(r); !bytes.Equal(again, b) {
		t.Fatalf("Put(Take(%x)) = %x", b, again)
	}
}

// P17.1: May

func TestMayOfEachPart(t *testing.T) {
	for _, r := range records() {
		if !record.May(r) {
			t.Errorf("May(%+v) = false", r)
		}
	}
	for n := range 65536 {
		r := middle()
		r.ID = n
		if !record.May(r) {
			t.Fatalf("May(%+v) = false", r)
		}
		r.Object = n*256 + n%256
		if !record.May(r) {
			t.Fatalf("May(%+v) = false", r)
		}
	}
}

func TestMayOfPartsOutside(t *testing.T) {
	for _, r := range outside() {
		if record.May(r) {
			t.Errorf("May of %+v and %d bytes = true", r, len(r.Data))
		}
	}
	if record.May(api.Record{}) {
		t.Error("May of the zero record = true")
	}
}

// All small parameters, with data of each small length.
func TestMayOfAllParameters(t *testing.T) {
	for k := -1; k <= 18; k++ {
		for h := -1; h <= 6; h++ {
			for size := -1; size <= 27; size++ {
				for n := range 30 {
					r := middle()
					r.P, r.Data = api.Params{K: k, H: h, Size: size}, make([]byte, n)
					want := k >= 1 && k <= 16 && h >= 1 && h <= 4 && size >= 1 && size <= 24 && n == size
					if got := record.May(r); got != want {
						t.Fatalf("May of %+v and %d bytes = %v", r.P, n, got)
					}
				}
			}
		}
	}
}

// What lies behind the data does not count.
func TestMayOfSpareCapacity(t *testing.T) {
	r := middle()
	for n := range 40 {
		r.Data = make([]byte, n, 40)
		if got := record.May(r); got != (n == 11) {
			t.Errorf("May of %d bytes of 40 = %v", n, got)
		}
	}
}

// P17.1: Put

func TestPutOfEachPart(t *testing.T) {
	for _, r := range records() {
		if got, want := record.Put(r), words(r); !bytes.Equal(got, want) {
			t.Errorf("Put(%+v) = %x, want %x", r, got, want)
		}
	}
}

func TestPutByChance(t *testing.T) {
	random := rand.New(rand.NewSource(17))
	for range 20_000 {
		r := chance(random)
		if got, want := record.Put(r), words(r); !bytes.Equal(got, want) {
			t.Fatalf("Put(%+v) = %x, want %x", r, got, want)
		}
	}
}

// Each byte of the body by itself.
func TestPutByteByByte(t *testing.T) {
	for _, r := range records() {
		c := record.Put(r)
		if len(c) != 64 || c[3] != 1 {
			t.Fatalf("Put(%+v) = %x, want 64 bytes of KindSymbol", r, c)
		}
		want := []byte{
			byte(r.Object / 65536), byte(r.Object / 256 % 256), byte(r.Object % 256),
			byte(r.Block),
			byte(r.ID / 256), byte(r.ID % 256),
			byte(r.P.K), byte(r.P.H), byte(r.P.Size),
			byte(r.Seed / 16777216), byte(r.Seed / 65536 % 256), byte(r.Seed / 256 % 256), byte(r.Seed % 256),
		}
		if !bytes.Equal(c[4:17], want) {
			t.Fatalf("Put(%+v) has %x ahead of the data, want %x", r, c[4:17], want)
		}
		if !bytes.Equal(c[17:17+r.P.Size], r.Data) {
			t.Fatalf("Put(%+v) has the data %x", r, c[17:17+r.P.Size])
		}
		if !bytes.Equal(c[17+r.P.Size:59], make([]byte, 42-r.P.Size)) {
			t.Fatalf("Put(%+v) has %x behind the data", r, c[17+r.P.Size:59])
		}
	}
}

func TestPutWrittenOut(t *testing.T) {
	for _, c := range []struct {
		r    api.Record
		want string
	}{
		{least(), "57730101" + "000000" + "00" + "0000" + "010101" + "00000000" + zeros(42) + "d8abc736" + "a5"},
		{middle(), "57730101" + "123456" + "05" + "789a" + "09030b" + "bcdef021" +
			"3142536475" + "8697a8b9cadb" + zeros(31) + "52009467" + "a5"},
		{greatest(), "57730101" + "ffffff" + "07" + "ffff" + "100418" + "ffffffff" +
			strings.Repeat("ff", 24) + zeros(18) + "3897095a" + "a5"},
	} {
		if got := hex.EncodeToString(record.Put(c.r)); got != c.want {
			t.Errorf("Put(%+v) = %s, want %s", c.r, got, c.want)
		}
	}
}

// zeros are so many bytes 0, written out.
func zeros(n int) string { return hex.EncodeToString(make([]byte, n)) }

// What Put returns is cell.Put of KindSymbol and a body.
func TestPutIsACell(t *testing.T) {
	for _, r := range records() {
		kind, got, ok := cell.Take(record.Put(r))
		if kind != api.KindSymbol || !bytes.Equal(got, body(r)) || !ok {
			t.Fatalf("cell.Take(Put(%+v)) = %d, %x, %v", r, kind, got, ok)
		}
		if !bytes.Equal(cell.Put(api.KindSymbol, body(r)), record.Put(r)) {
			t.Fatalf("Put(%+v) = %x", r, record.Put(r))
		}
	}
}

func TestPutOfPartsOutside(t *testing.T) {
	for _, r := range outside() {
		if got := record.Put(r); len(got) != 0 {
			t.Errorf("Put of %+v and %d bytes = %x, want none", r, len(r.Data), got)
		}
	}
	if got := record.Put(api.Record{}); len(got) != 0 {
		t.Errorf("Put of the zero record = %x, want none", got)
	}
}

func TestPutOfVeryMuchData(t *testing.T) {
	r := middle()
	for _, n := range []int{1 << 16, 1<<16 + 11, 1 << 24, 1<<24 + 11} {
		r.Data = make([]byte, n)
		if got := record.Put(r); len(got) != 0 {
			t.Errorf("Put of %d bytes = %x, want none", n, got)
		}
	}
}

// P17.1: Take

func TestTakeOfWhatPutReturns(t *testing.T) {
	for _, r := range records() {
		isRecord(t, record.Put(r), r)
	}
	random := rand.New(rand.NewSource(18))
	for range 20_000 {
		r := chance(random)
		isRecord(t, record.Put(r), r)
	}
}

func TestTakeOfWords(t *testing.T) {
	for _, r := range records() {
		isRecord(t, words(r), r)
		asTold(t, words(r))
	}
}

func TestTakeOfEachLength(t *testing.T) {
	noRecord(t, nil)
	for n := range 200 {
		noRecord(t, make([]byte, n))
		noRecord(t, filled(int64(n), n))
		noRecord(t, bytes.Repeat([]byte{1}, n))
		noRecord(t, bytes.Repeat([]byte{255}, n))
	}
	noRecord(t, make([]byte, 1<<24))
}

// Cut at the end, at the beginning and within; lengthened by bytes 0 or others.
func TestTakeOfCellsCutOrLengthened(t *testing.T) {
	for _, r := range []api.Record{least(), middle(), greatest()} {
		c := words(r)
		for n := range 64 {
			noRecord(t, c[:n])
			noRecord(t, c[64-n:])
			noRecord(t, slices.Delete(slices.Clone(c), n, n+1))
		}
		for place := range 65 {
			for _, x := range []byte{0, 1, 0x57, 0xa5, 0xff} {
				noRecord(t, slices.Insert(slices.Clone(c), place, x))
			}
		}
		for n := 1; n < 130; n++ {
			noRecord(t, append(slices.Clone(c), make([]byte, n)...))
			noRecord(t, append(make([]byte, n), c...))
		}
		noRecord(t, append(slices.Clone(c), c...))
		noRecord(t, append(slices.Clone(c), make([]byte, 65536)...))
	}
}

// Bodies that are shorter or longer than Body, with the sum of what is there.
func TestTakeOfBodiesCutOrLengthened(t *testing.T) {
	for _, r := range []api.Record{least(), middle(), greatest()} {
		b := body(r)
		for n := range 55 {
			noRecord(t, closed(append([]byte{0x57, 0x73, 1, 1}, b[:n]...)))
		}
		for n := 1; n < 70; n++ {
			noRecord(t, closed(append(append([]byte{0x57, 0x73, 1, 1}, b...), make([]byte, n)...)))
		}
	}
}

// Each byte with each other value: the sum of the bytes as they were doesn't match.
func TestTakeOfEachByteChanged(t *testing.T) {
	for _, r := range []api.Record{least(), middle(), greatest()} {
		for place := range 64 {
			for x := 1; x < 256; x++ {
				b := words(r)
				b[place] ^= byte(x)
				noRecord(t, b)
			}
		}
	}
}

// Each byte of the body with each other value, and the cell made anew over it: another
// record or, where no record has such a body, none.
func TestTakeOfEachByteChangedWithItsSum(t *testing.T) {
	taken := 0
	for _, r := range records() {
		for place := range 55 {
			for _, x := range []byte{1, 2, 3, 4, 7, 8, 16, 24, 31, 32, 64, 128, 255} {
				b := body(r)
				b[place] ^= x
				c := whole(1, b)
				asTold(t, c)
				if _, ok := told(c); ok {
					taken++
				}
			}
		}
	}
	if taken == 0 {
		t.Error("no record was taken")
	}
}

// Each value of each byte ahead of the data, in the least, a middle and the greatest
// record.
func TestTakeOfEachValue(t *testing.T) {
	for _, r := range []api.Record{least(), middle(), greatest()} {
		for place := range 13 {
			for x := range 256 {
				b := body(r)
				b[place] = byte(x)
				asTold(t, whole(1, b))
			}
		}
	}
}

// Parts just outside their bounds, and all that a byte holds, written as the chapter says.
func TestTakeOfPartsOutside(t *testing.T) {
	for at, within := range map[int][2]int{3: {0, 7}, 6: {1, 16}, 7: {1, 4}, 8: {1, 24}} {
		for x := range 256 {
			b := append(body(middle())[:13], make([]byte, 42)...)
			b[at] = byte(x)
			c := whole(1, b)
			r, ok := record.Take(c)
			if want := x >= within[0] && x <= within[1]; ok != want {
				t.Errorf("Take of %d as byte %d of the body = %+v, %v", x, at, r, ok)
			}
			asTold(t, c)
		}
	}
}

// A byte other than 0 behind the data, at each place.
func TestTakeOfBytesBehindTheData(t *testing.T) {
	for size := 1; size <= 24; size++ {
		r := middle()
		r.P.Size, r.Data = size, filled(int64(size), size)
		isRecord(t, words(r), r)
		for place := 13 + size; place < 55; place++ {
			for _, x := range []byte{1, 2, 0x80, 0xa5, 0xff} {
				b := body(r)
				b[place] = x
				noRecord(t, whole(1, b))
			}
		}
		b := append(body(r)[:13+size], filled(int64(size), 42-size)...)
		noRecord(t, whole(1, b))
	}
}

// Sizes that are not valid, with bytes 0 behind, or data up to the end.
func TestTakeOfSizesOutside(t *testing.T) {
	for size := range 256 {
		for _, data := range [][]byte{make([]byte, 42), filled(int64(size), 42), bytes.Repeat([]byte{byte(size)}, 42)} {
			b := append(body(middle())[:13], data...)
			b[8] = byte(size)
			if size < 1 || size > 24 {
				noRecord(t, whole(1, b))
				noRecord(t, closed(append([]byte{0x57, 0x73, 1, 1}, b[:min(55, 13+size)]...)))
			}
			asTold(t, whole(1, b))
		}
	}
}

func TestTakeOfOtherKinds(t *testing.T) {
	for _, r := range []api.Record{least(), middle(), greatest()} {
		for kind := range 256 {
			c := whole(byte(kind), body(r))
			if kind == api.KindSymbol {
				isRecord(t, c, r)
				continue
			}
			noRecord(t, c)
		}
		noRecord(t, cell.Put(api.KindPage, body(r)))
	}
}

func TestTakeOfBodiesByChance(t *testing.T) {
	random := rand.New(rand.NewSource(19))
	for range 20_000 {
		b := make([]byte, 55)
		random.Read(b[:random.Intn(56)])
		asTold(t, whole(1, b))
		b[3], b[6], b[7], b[8] = b[3]%9, b[6]%18, b[7]%6, b[8]%26
		asTold(t, whole(1, b))
		clear(b[min(55, 12+int(b[8])+random.Intn(2)):])
		asTold(t, whole(1, b))
	}
}

func TestTakeOfBytesByChance(t *testing.T) {
	random := rand.New(rand.NewSource(20))
	for range 20_000 {
		b := make([]byte, 64)
		random.Read(b)
		noRecord(t, b)
		copy(b, "\x57\x73\x01\x01")
		b[63] = 0xa5
		noRecord(t, b)
	}
}

// P17.1: records that differ

func TestRecordsThatDiffer(t *testing.T) {
	seen := map[string]api.Record{}
	random := rand.New(rand.NewSource(21))
	list := records()
	for range 20_000 {
		list = append(list, chance(random))
	}
	for _, r := range list {
		c := string(record.Put(r))
		if other, ok := seen[c]; ok && !equal(r, other) {
			t.Fatalf("%+v and %+v have the cell %x", r, other, c)
		}
		seen[c] = r
	}
}

// Each bit of each part by itself.
func TestRecordsThatDifferInABit(t *testing.T) {
	for _, r := range records() {
		c := record.Put(r)
		differs := func(what string, change func(*api.Record)) {
			other := copied(r)
			change(&other)
			if record.May(other) && bytes.Equal(record.Put(other), c) {
				t.Fatalf("%+v and one with another %s have the cell %x", r, what, c)
			}
		}
		for bit := range 32 {
			differs("Object", func(r *api.Record) { r.Object ^= 1 << bit })
			differs("Block", func(r *api.Record) { r.Block ^= 1 << bit })
			differs("ID", func(r *api.Record) { r.ID ^= 1 << bit })
			differs("K", func(r *api.Record) { r.P.K ^= 1 << bit })
			differs("H", func(r *api.Record) { r.P.H ^= 1 << bit })
			differs("Seed", func(r *api.Record) { r.Seed ^= 1 << bit })
		}
		for i := range 8 * r.P.Size {
			differs("Data", func(r *api.Record) { r.Data[i/8] ^= 1 << (i % 8) })
		}
		if r.P.Size < 24 {
			differs("Size", func(r *api.Record) { r.P.Size, r.Data = r.P.Size+1, append(r.Data, 0) })
		}
	}
}

// R1, R3, R4, R5

// overwrite changes each byte, and those that there is room for behind them.
func overwrite(b []byte) {
	b = b[:cap(b)]
	for i := range b {
		b[i] ^= 0x3c
	}
}

func TestPutDoesNotModify(t *testing.T) {
	for n := range 70 {
		around := filled(int64(n), n+90)
		kept := slices.Clone(around)
		for size := range 26 {
			for _, data := range [][]byte{around[5 : 5+n], around[5 : 5+n : 5+n]} {
				r := middle()
				r.P.Size, r.Data = size, data
				record.May(r)
				record.Put(r)
			}
		}
		if !bytes.Equal(around, kept) {
			t.Fatalf("%d bytes: %x became %x", n, kept, around)
		}
	}
}

func TestTakeDoesNotModify(t *testing.T) {
	for _, r := range records() {
		around := append(append(filled(3, 7), words(r)...), filled(4, 80)...)
		kept := slices.Clone(around)
		for _, n := range []int{0, 1, 63, 64, 65, 80} {
			record.Take(around[7 : 7+n])
			record.Take(around[7 : 7+n : 7+n])
		}
		if !bytes.Equal(around, kept) {
			t.Fatalf("%x became %x", kept, around)
		}
	}
}

// What is returned is overwritten, to the end of its memory: nothing else changes.
func TestPutReturnsNewMemory(t *testing.T) {
	for _, r := range records() {
		kept, want := copied(r), words(r)
		one, two := record.Put(r), record.Put(r)
		overwrite(one)
		if !equal(r, kept) || !bytes.Equal(two, want) || !bytes.Equal(record.Put(r), want) {
			t.Fatalf("%+v: what Put returned shares memory", kept)
		}
		overwrite(r.Data)
		if !bytes.Equal(two, want) {
			t.Fatalf("%+v: Put has kept the data", kept)
		}
	}
}

func TestTakeReturnsNewMemory(t *testing.T) {
	for _, r := range records() {
		c := words(r)
		kept := slices.Clone(c)
		one, _ := record.Take(c)
		two, _ := record.Take(c)
		overwrite(one.Data)
		if !bytes.Equal(c, kept) || !equal(two, r) {
			t.Fatalf("%+v: what Take returned shares memory", r)
		}
		isRecord(t, c, r)
		overwrite(c)
		if !equal(two, r) {
			t.Fatalf("%+v: Take has kept the bytes", r)
		}
	}
}

// Every part has its zero value beside false.
func TestTakeOfNoneIsZero(t *testing.T) {
	valid := words(greatest())
	bad := body(greatest())
	bad[54] = 1
	for _, b := range [][]byte{nil, {}, valid[:63], append(slices.Clone(valid), 0), whole(2, body(greatest())), whole(1, bad)} {
		r, ok := record.Take(b)
		if len(r.Data) == 0 {
			r.Data = nil
		}
		if ok || !reflect.DeepEqual(r, api.Record{}) {
			t.Errorf("Take(%x) = %+v, %v", b, r, ok)
		}
	}
}

// Neither where the bytes lie nor what lies about them counts.
func TestOfWhatIsGivenAlone(t *testing.T) {
	for _, r := range records() {
		c := words(r)
		around := append(append(filled(5, 9), c...), filled(6, 9)...)
		isRecord(t, around[9:73], r)
		r.Data = around[9+17 : 9+17+r.P.Size]
		if got := record.Put(r); !bytes.Equal(got, c) {
			t.Fatalf("Put(%+v) = %x, want %x", r, got, c)
		}
	}
}

// What was asked before does not count.
func TestTheSameAgain(t *testing.T) {
	bad := outside()
	for i, r := range records() {
		first := record.Put(r)
		other := bad[i%len(bad)]
		record.Put(other)
		noRecord(t, first[:63])
		if again := record.Put(r); !bytes.Equal(first, again) {
			t.Fatalf("Put(%+v) = %x, and once more %x", r, first, again)
		}
		if !record.May(r) || record.May(other) || !record.May(r) {
			t.Fatalf("May(%+v) or May(%+v) has changed", r, other)
		}
		isRecord(t, first, r)
		isRecord(t, first, r)
	}
}

func TestManyAtOnce(t *testing.T) {
	list := records()
	var all sync.WaitGroup
	for range 16 {
		all.Go(func() {
			for _, r := range list {
				got, ok := record.Take(record.Put(r))
				if !ok || !equal(got, r) {
					t.Errorf("Take(Put(%+v)) = %+v, %v", r, got, ok)
				}
			}
		})
	}
	all.Wait()
}

func ExamplePut() {
	r := api.Record{Object: 1, Block: 2, ID: 3, P: api.Params{K: 4, H: 2, Size: 3}, Seed: 5, Data: []byte("dew")}
	fmt.Printf("%x\n", record.Put(r)[4:21])
	// Output: 0000010200030402030000000564657700
}

func ExampleTake() {
	p := api.Params{K: 4, H: 2, Size: 3}
	r, ok := record.Take(record.Put(api.Record{ID: 3, P: p, Data: []byte("dew")}))
	fmt.Printf("%d %+v %q %v\n", r.ID, r.P, r.Data, ok)
	// Output: 3 {K:4 H:2 Size:3} "dew" true
}
