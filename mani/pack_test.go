package mani_test

import (
	"bytes"
	"encoding/hex"
	"fmt"
	"math/rand"
	"reflect"
	"slices"
	"strings"
	"sync"
	"testing"

	"wellspring/api"
	"wellspring/mani"
)

// isManifest asserts that Parse returns this manifest, and Pack of it these bytes.
func isManifest(t *testing.T, b []byte, want api.Manifest) {
	t.Helper()
	m, ok := mani.Parse(b)
	if !ok || !equal(m, want) {
		t.Fatalf("Parse(%x) = %+v, %v, want %+v", b, m, ok, want)
	}
	if again := mani.Pack(m); !bytes.Equal(again, b) {
		t.Fatalf("Pack(Parse(%x)) = %x", b, again)
	}
}

// noManifest asserts that Parse says false, and nothing else.
func noManifest(t *testing.T, b []byte) {
	t.Helper()
	m, ok := mani.Parse(b)
	if len(m.Drives) == 0 && len(m.Objects) == 0 {
		m.Drives, m.Objects = nil, nil
	}
	if ok || !reflect.DeepEqual(m, api.Manifest{}) {
		t.Fatalf("Parse(%x) = %+v, %v, want none", b, m, ok)
	}
}

// asTold asserts that Parse says what the bytes tell by the words.
func asTold(t *testing.T, b []byte) bool {
	t.Helper()
	want, ok := told(b)
	if ok {
		isManifest(t, b, want)
	} else {
		noManifest(t, b)
	}
	return ok
}

// some are manifests with drives and objects of several kinds, none of them great.
func some() []api.Manifest {
	return []api.Manifest{
		least(), middle(), of(long(40, 4)), of(entries(12)...), changed(least(), func(m *api.Manifest) { m.Drives = []int{0} }),
		changed(greatest(), func(m *api.Manifest) { m.Objects = m.Objects[:2] }),
	}
}

// P19.2: Pack

func TestPackOfValid(t *testing.T) {
	for _, m := range valid() {
		if got, want := mani.Pack(m), words(m); !bytes.Equal(got, want) {
			t.Fatalf("Pack(%+v) = %x, want %x", m, got, want)
		}
	}
}

func TestPackByChance(t *testing.T) {
	r := rand.New(rand.NewSource(194))
	for range 20_000 {
		m := chance(r)
		if got, want := mani.Pack(m), words(m); !bytes.Equal(got, want) {
			t.Fatalf("Pack(%+v) = %x, want %x", m, got, want)
		}
	}
}

func TestPackWrittenOut(t *testing.T) {
	one := api.Manifest{
		Seq: 258, Next: 66051, P: api.Params{K: 2, H: 3, Size: 4}, Extra: 16, Drives: []int{5, 63},
		Objects: []api.Entry{{Name: "-0z", Object: 66050, Length: 17, Tries: []int{15, 1, 0}}},
	}
	greatestObjects := ""
	for i, last := range []string{"30", "31", "32", "33", "34", "35", "36", "37", "38", "39", "79", "7a"} {
		number := []string{"ff", "fe", "fd", "fc", "fb", "fa", "f9", "f8", "f7", "f6", "f5", "f4"}[i]
		greatestObjects += "0c" + strings.Repeat("7a", 11) + last + "ffff" + number + "0c00" + "0f0f0f0f0f0f0f0f"
	}
	for _, c := range []struct {
		m    api.Manifest
		want string
	}{
		{least(), "00000001" + "00000000" + "010101" + "00" + "00" + "00"},
		{changed(least(), func(m *api.Manifest) { m.Drives = []int{7} }), "00000001" + "00000000" + "01010100" + "0107" + "00"},
		{one, "00000102" + "00010203" + "02030410" + "02053f" + "01" + "032d307a" + "010202" + "0011" + "0f0100"},
		{middle(), "12345678" + "009abcde" + "04020305" + "040307082a" + "05" +
			"03632d31" + "345678" + "001e" + "010e09" +
			"0166" + "123456" + "000c" + "05" +
			"03666f67" + "9abcdd" + "0000" +
			"05666f672d32" + "010203" + "0060" + "0807060504030201" +
			"0178" + "040506" + "000d" + "0a0b"},
		{greatest(), "7fffffff" + "01000000" + "10041810" + "40" +
			"000102030405060708090a0b0c0d0e0f101112131415161718191a1b1c1d1e1f" +
			"202122232425262728292a2b2c2d2e2f303132333435363738393a3b3c3d3e3f" +
			"0c" + greatestObjects},
	} {
		if got := hex.EncodeToString(mani.Pack(c.m)); got != c.want {
			t.Errorf("Pack(%+v) = %s, want %s", c.m, got, c.want)
		}
	}
}

// The example of the chapter.
func TestPackOfOneDriveHas15Bytes(t *testing.T) {
	for d := range 64 {
		m := changed(least(), func(m *api.Manifest) { m.Drives = []int{d} })
		if got := mani.Pack(m); len(got) != 15 {
			t.Errorf("Pack of the drive %d = %x", d, got)
		}
	}
}

func TestPackOfNotValid(t *testing.T) {
	for _, m := range notValid() {
		if got := mani.Pack(m); len(got) > 0 {
			t.Fatalf("Pack(%+v) = %x, want none", m, got)
		}
	}
	r := rand.New(rand.NewSource(195))
	for range 50_000 {
		m := spoilt(r, chance(r))
		if got := mani.Pack(m); len(got) > 0 != isValid(m) {
			t.Fatalf("Pack(%+v) = %x", m, got)
		}
	}
}

func TestPackDiffers(t *testing.T) {
	seen := map[string]api.Manifest{}
	for _, m := range valid() {
		b := string(mani.Pack(m))
		if other, ok := seen[b]; ok && !equal(m, other) {
			t.Fatalf("%+v and %+v have the bytes %x", m, other, b)
		}
		seen[b] = m
	}
}

// P19.2: Parse

func TestParseOfWhatPackReturns(t *testing.T) {
	for _, m := range valid() {
		isManifest(t, mani.Pack(m), m)
		isManifest(t, words(m), m)
	}
	r := rand.New(rand.NewSource(196))
	for range 20_000 {
		m := chance(r)
		isManifest(t, mani.Pack(m), m)
	}
}

func TestParseOfNoBytes(t *testing.T) {
	noManifest(t, nil)
	noManifest(t, []byte{})
	for n := range 500 {
		noManifest(t, make([]byte, n))
		noManifest(t, bytes.Repeat([]byte{255}, n))
		noManifest(t, bytes.Repeat([]byte{1}, n))
	}
}

// Cut at any place, from the end or from the beginning, alone or with one more byte.
func TestParseOfBytesCut(t *testing.T) {
	for _, m := range append(some(), greatest()) {
		b := words(m)
		for n := range b {
			noManifest(t, b[:n])
			noManifest(t, slices.Clip(b[:n]))
			asTold(t, b[n+1:])
			asTold(t, slices.Delete(slices.Clone(b), n, n+1))
		}
	}
}

func TestParseOfBytesLengthened(t *testing.T) {
	for _, m := range append(some(), greatest()) {
		b := words(m)
		for x := range 256 {
			noManifest(t, append(slices.Clone(b), byte(x)))
			asTold(t, append([]byte{byte(x)}, b...))
		}
		for n := 1; n < 100; n++ {
			noManifest(t, append(slices.Clone(b), make([]byte, n)...))
			asTold(t, append(make([]byte, n), b...))
		}
		noManifest(t, append(slices.Clone(b), b...))
		noManifest(t, append(slices.Clone(b), make([]byte, 1<<20)...))
		for n := range b {
			for _, x := range []byte{0, 1, b[n], 'a', 255} {
				asTold(t, slices.Insert(slices.Clone(b), n, x))
			}
		}
	}
}

// Each byte with each other value: another manifest or, where none has these bytes, none.
func TestParseOfEachByteTurned(t *testing.T) {
	count := map[bool]int{}
	for _, m := range some() {
		whole := words(m)
		for i := range whole {
			for x := 1; x < 256; x++ {
				b := slices.Clone(whole)
				b[i] ^= byte(x)
				count[asTold(t, b)]++
			}
		}
	}
	if count[true] < 1000 || count[false] < 1000 {
		t.Error("too few of a kind:", count)
	}
}

// turn is a valid manifest, and what makes it one that is not by turning one byte.
type turn struct {
	sentence string
	of       api.Manifest
	change   func(*api.Manifest)
}

// turns are each sentence of May, broken by one byte.
func turns() []turn {
	short := of(named("ab", "ad", "af")...)
	short.Next, short.Objects[2].Object = 3, 2
	full := of(long(96, 8))
	bare := bare()
	return []turn{
		{"Seq below 1", bare[0], func(m *api.Manifest) { m.Seq = 0 }},
		{"Seq above MaxSeq", bare[2], func(m *api.Manifest) { m.Seq = 1<<32 - 1 }},
		{"Seq far above MaxSeq", bare[0], func(m *api.Manifest) { m.Seq = 1<<31 + 1 }},
		{"Next above MaxNumber + 1", bare[2], func(m *api.Manifest) { m.Next = 16777217 }},
		{"Next far above MaxNumber + 1", bare[2], func(m *api.Manifest) { m.Next = 1 << 31 }},
		{"K below 1", bare[1], func(m *api.Manifest) { m.P.K = 0 }},
		{"K above MaxK", bare[1], func(m *api.Manifest) { m.P.K = 17 }},
		{"H below 1", bare[1], func(m *api.Manifest) { m.P.H = 0 }},
		{"H above MaxH", bare[1], func(m *api.Manifest) { m.P.H = 5 }},
		{"Size below 1", bare[1], func(m *api.Manifest) { m.P.Size = 0 }},
		{"Size above MaxSize", bare[1], func(m *api.Manifest) { m.P.Size = 25 }},
		{"K 0 with an object", short, func(m *api.Manifest) { m.P.K = 0 }},
		{"H 0 with an object", short, func(m *api.Manifest) { m.P.H = 0 }},
		{"Size 0 with an object", short, func(m *api.Manifest) { m.P.Size = 0 }},
		{"Extra above MaxExtra", middle(), func(m *api.Manifest) { m.Extra = 17 }},
		{"Extra far above MaxExtra", middle(), func(m *api.Manifest) { m.Extra = 255 }},
		{"Drives equal", middle(), func(m *api.Manifest) { m.Drives[2] = 7 }},
		{"Drives descending", middle(), func(m *api.Manifest) { m.Drives[1] = 9 }},
		{"Drives equal at the end", middle(), func(m *api.Manifest) { m.Drives[3] = 8 }},
		{"Drives equal further apart", middle(), func(m *api.Manifest) { m.Drives[3] = 3 }},
		{"a Drive above MaxDrives - 1", middle(), func(m *api.Manifest) { m.Drives[3] = 64 }},
		{"a Drive far above MaxDrives - 1", middle(), func(m *api.Manifest) { m.Drives[3] = 255 }},
		{"a Name of another byte at the first place", short, func(m *api.Manifest) { m.Objects[0].Name = "Ab" }},
		{"a Name of another byte at the last place", short, func(m *api.Manifest) { m.Objects[0].Name = "aB" }},
		{"a Name with a byte above 127", short, func(m *api.Manifest) { m.Objects[2].Name = "a\xe6" }},
		{"Names equal", short, func(m *api.Manifest) { m.Objects[1].Name = "ab" }},
		{"Names descending", short, func(m *api.Manifest) { m.Objects[1].Name = "aa" }},
		{"Names equal at the end", short, func(m *api.Manifest) { m.Objects[2].Name = "ad" }},
		{"Names equal further apart", short, func(m *api.Manifest) { m.Objects[2].Name = "ab" }},
		{"an Object at Next", short, func(m *api.Manifest) { m.Objects[2].Object = 3 }},
		{"an Object far above Next", short, func(m *api.Manifest) { m.Objects[2].Object = 0xff0002 }},
		{"Next at an Object", short, func(m *api.Manifest) { m.Next = 2 }},
		{"Next 0 with an object", short, func(m *api.Manifest) { m.Next = 0 }},
		{"two Objects of the same number", short, func(m *api.Manifest) { m.Objects[1].Object = 0 }},
		{"two Objects of the same number at the end", short, func(m *api.Manifest) { m.Objects[2].Object = 1 }},
		{"two Objects of the same number further apart", short, func(m *api.Manifest) { m.Objects[2].Object = 0 }},
		{"Length above K Size MaxBlocks", full, func(m *api.Manifest) { m.Objects[0].Length = 97 }},
		{"Length far above K Size MaxBlocks", full, func(m *api.Manifest) { m.Objects[0].Length = 0xff60 }},
		{"a Try too few", full, func(m *api.Manifest) { m.Objects[0].Length = 84 }},
		{"a Try too many", of(long(84, 7)), func(m *api.Manifest) { m.Objects[0].Length = 85 }},
		{"no Try too few", of(long(1, 1)), func(m *api.Manifest) { m.Objects[0].Length = 0 }},
		{"a Try where there is none", short, func(m *api.Manifest) { m.Objects[2].Length = 1 }},
		{"the first Try above MaxTries - 1", full, func(m *api.Manifest) { m.Objects[0].Tries[0] = 16 }},
		{"the last Try above MaxTries - 1", full, func(m *api.Manifest) { m.Objects[0].Tries[7] = 16 }},
		{"a Try far above MaxTries - 1", full, func(m *api.Manifest) { m.Objects[0].Tries[3] = 255 }},
	}
}

func TestParseOfEachSentenceBroken(t *testing.T) {
	for _, c := range turns() {
		t.Run(c.sentence, func(t *testing.T) {
			b, other := words(c.of), words(changed(c.of, c.change))
			isManifest(t, b, c.of)
			different := 0
			for i := range b {
				if b[i] != other[i] {
					different++
				}
			}
			if len(b) != len(other) || different != 1 {
				t.Fatalf("the test itself is wrong: %x, %x", b, other)
			}
			noManifest(t, other)
		})
	}
}

// fits reports whether each part has room in the bytes that are for it.
func fits(m api.Manifest) bool {
	ok := between(0, 1<<32-1, m.Seq, m.Next) && between(0, 255, m.P.K, m.P.H, m.P.Size, m.Extra, len(m.Drives), len(m.Objects)) &&
		between(0, 255, m.Drives...)
	for _, e := range m.Objects {
		ok = ok && between(0, 1<<24-1, e.Object) && between(0, 65535, e.Length) && between(0, 255, len(e.Name)) && between(0, 255, e.Tries...)
	}
	return ok
}

// The bytes that manifests which are not valid would have.
func TestParseOfNotValid(t *testing.T) {
	count := 0
	for _, m := range notValid() {
		if fits(m) {
			asTold(t, words(m))
			count++
		}
	}
	if count < 1000 {
		t.Error("too few:", count)
	}
	r := rand.New(rand.NewSource(197))
	for range 50_000 {
		if m := spoilt(r, chance(r)); fits(m) {
			asTold(t, words(m))
		}
	}
}

// Numbers of drives, of objects and of bytes of a name that are greater than what follows.
func TestParseOfCountsTooGreat(t *testing.T) {
	head := words(least())[:12]
	for n := 1; n < 256; n++ {
		noManifest(t, append(slices.Clone(head), byte(n)))
		noManifest(t, append(slices.Clone(head), byte(n), 0))
		noManifest(t, append(slices.Clone(head), 0, byte(n)))
		noManifest(t, append(slices.Clone(head), 0, byte(n), 1, 'a', 0, 0, 0, 0, 0))
		noManifest(t, append(slices.Clone(head), 0, 1, byte(n)))
		noManifest(t, append(slices.Clone(head), 0, 1, byte(n), 'a', 'b', 'c'))
		noManifest(t, append(slices.Clone(head), 0, byte(n), 0, 0, 0, 0, 255, 255))
		noManifest(t, append(append(slices.Clone(head), 0, byte(n)), bytes.Repeat([]byte{255}, 1<<16)...))
	}
}

// More objects than there may be, and longer names, with all their bytes.
func TestParseOfMoreThanThereMayBe(t *testing.T) {
	for count := range 256 {
		m := of(entries(count)...)
		if b := words(m); count > 12 {
			noManifest(t, b)
		} else {
			isManifest(t, b, m)
		}
	}
	for n := range 256 {
		m := of(named(strings.Repeat("q", n))...)
		if b := words(m); n < 1 || n > 12 {
			noManifest(t, b)
		} else {
			isManifest(t, b, m)
		}
	}
}

func TestParseByChance(t *testing.T) {
	r := rand.New(rand.NewSource(198))
	count := map[bool]int{}
	for range 50_000 {
		b := mani.Pack(chance(r))
		for range 1 + r.Intn(2) {
			b[r.Intn(len(b))] = byte(r.Intn(1 << (1 + r.Intn(8))))
		}
		count[asTold(t, b)]++
		b = make([]byte, r.Intn(100))
		r.Read(b)
		asTold(t, b)
	}
	if count[true] < 1000 || count[false] < 1000 {
		t.Error("too few of a kind:", count)
	}
}

// R3, R5

// loose is a manifest whose lists have spare capacity, filled with numbers and objects.
func loose(m api.Manifest) api.Manifest {
	m = copied(m)
	m.Drives = append(m.Drives, 77, 78, 79)[:len(m.Drives)]
	m.Objects = append(m.Objects, api.Entry{Name: "behind", Tries: []int{80}}, api.Entry{})[:len(m.Objects)]
	for i := range m.Objects {
		e := &m.Objects[i]
		e.Tries = append(e.Tries, 81, 82)[:len(e.Tries)]
	}
	return m
}

// all is a manifest with what its lists have room for, written out.
func all(m api.Manifest) string {
	text := fmt.Sprint(m, m.Drives[:cap(m.Drives)], m.Objects[:cap(m.Objects)])
	for _, e := range m.Objects {
		text += fmt.Sprint(e.Tries[:cap(e.Tries)])
	}
	return text
}

func TestMayAndPackDoNotModify(t *testing.T) {
	for _, m := range slices.Concat(some(), []api.Manifest{greatest()}, drivesNotValid(), namesNotValid()) {
		m = loose(m)
		kept := all(m)
		mani.May(m)
		mani.Pack(m)
		if got := all(m); got != kept {
			t.Fatalf("%s became %s", kept, got)
		}
	}
}

func TestParseDoesNotModify(t *testing.T) {
	for _, m := range append(some(), greatest()) {
		b := append(words(m), 1, 2, 3, 4, 5, 6, 7)
		kept := slices.Clone(b)
		for n := range b {
			mani.Parse(b[:n])
			mani.Parse(b[:n:n])
		}
		if !bytes.Equal(b, kept) {
			t.Fatalf("%x became %x", kept, b)
		}
	}
}

// overwrite changes each byte, and those that there is room for behind them.
func overwrite(b []byte) {
	b = b[:cap(b)]
	for i := range b {
		b[i] ^= 0x3c
	}
}

// spoil changes each number, and those that there is room for behind them.
func spoil(list []int) {
	list = list[:cap(list)]
	for i := range list {
		list[i] -= 1000
	}
}

// writes are all that one who has a manifest may write there, list by list.
func writes(m api.Manifest) []func() {
	list := []func(){func() { spoil(m.Drives) }}
	for i := range m.Objects {
		list = append(list, func() { spoil(m.Objects[i].Tries) })
	}
	return append(list, func() {
		objects := m.Objects[:cap(m.Objects)]
		for i := range objects {
			objects[i] = api.Entry{Name: "written", Object: -1, Length: -1, Tries: []int{-1}}
		}
	})
}

func TestPackKeepsAndSharesNothing(t *testing.T) {
	for _, m := range append(some(), greatest()) {
		want := words(m)
		one, two := mani.Pack(m), mani.Pack(m)
		overwrite(one)
		if !bytes.Equal(two, want) || !bytes.Equal(words(m), want) || !bytes.Equal(mani.Pack(m), want) {
			t.Fatalf("%+v: what Pack returned shares memory", m)
		}
		other := copied(m)
		for _, write := range writes(m) {
			write()
		}
		if !bytes.Equal(two, want) || !bytes.Equal(mani.Pack(other), want) {
			t.Fatalf("%+v: Pack has kept the manifest", m)
		}
	}
}

// Whoever writes in one list of what Parse returned changes that list alone.
func TestParseSharesNothing(t *testing.T) {
	for _, m := range append(some(), greatest()) {
		b := words(m)
		two, _ := mani.Parse(b)
		for i := range writes(m) {
			one, _ := mani.Parse(b)
			want := copied(one)
			writes(one)[i]()
			writes(want)[i]()
			if !equal(one, want) {
				t.Fatalf("%+v: the lists of what Parse returned share memory", m)
			}
			if !bytes.Equal(b, words(m)) || !equal(two, m) {
				t.Fatalf("%+v: what Parse returned shares memory", m)
			}
			isManifest(t, b, m)
		}
	}
}

// What is appended to one list of what Parse returned changes no other.
func TestParseSharesNoRoomBehindAList(t *testing.T) {
	for _, m := range append(some(), greatest()) {
		one, _ := mani.Parse(words(m))
		_ = append(one.Drives, -1, -2, -3)
		_ = append(one.Objects, api.Entry{Name: "behind"})
		for _, e := range one.Objects {
			_ = append(e.Tries, -4, -5)
		}
		if !equal(one, m) {
			t.Fatalf("%+v became %+v", m, one)
		}
	}
}

func TestParseKeepsNothing(t *testing.T) {
	for _, m := range append(some(), greatest()) {
		b := append(words(m), 9, 9, 9)[:len(words(m))]
		got, ok := mani.Parse(b)
		overwrite(b)
		if !ok || !equal(got, m) {
			t.Fatalf("Parse has kept the bytes: %+v became %+v", m, got)
		}
		isManifest(t, words(m), m)
	}
}

// Neither where the bytes lie nor what lies about them counts.
func TestParseOfWhatIsGivenAlone(t *testing.T) {
	for _, m := range append(some(), greatest()) {
		b := words(m)
		around := slices.Concat([]byte{1, 2, 3, 4, 5}, b, b, []byte{0, 0, 0, 0})
		isManifest(t, around[5:5+len(b)], m)
		isManifest(t, around[5+len(b):5+2*len(b)], m)
	}
}

// What was asked before does not count.
func TestTheSameAgain(t *testing.T) {
	bad := notValid()
	for i, m := range valid() {
		other := bad[i*31%len(bad)]
		first := mani.Pack(m)
		mani.Pack(other)
		noManifest(t, first[:len(first)-1])
		if again := mani.Pack(m); !bytes.Equal(first, again) {
			t.Fatalf("Pack(%+v) = %x, and once more %x", m, first, again)
		}
		if !mani.May(m) || mani.May(other) || !mani.May(m) {
			t.Fatalf("May(%+v) or May(%+v) has changed", m, other)
		}
		isManifest(t, first, m)
		isManifest(t, first, m)
	}
}

func TestManyAtOnce(t *testing.T) {
	list := append(some(), greatest())
	var group sync.WaitGroup
	for range 16 {
		group.Go(func() {
			for range 50 {
				for _, m := range list {
					got, ok := mani.Parse(mani.Pack(m))
					if !ok || !equal(got, m) {
						t.Errorf("Parse(Pack(%+v)) = %+v, %v", m, got, ok)
					}
				}
			}
		})
	}
	group.Wait()
}

func ExamplePack() {
	m := api.Manifest{Seq: 1, P: api.Params{K: 4, H: 2, Size: 3}, Extra: 2, Drives: []int{7}}
	fmt.Printf("%x\n", mani.Pack(m))
	// Output: 000000010000000004020302010700
}

func ExampleParse() {
	p := api.Params{K: 4, H: 2, Size: 3}
	b := mani.Pack(api.Manifest{Seq: 2, Next: 1, P: p, Objects: []api.Entry{{Name: "dew", Length: 13, Tries: []int{0, 3}}}})
	m, ok := mani.Parse(b)
	fmt.Printf("%d %+v %v\n", m.Seq, m.Objects, ok)
	// Output: 2 [{Name:dew Object:0 Length:13 Tries:[0 3]}] true
}

func ExampleSeed() {
	fmt.Println(mani.Name("dew"), mani.Name("Dew"), mani.Seed(3, 2, 5))
	// Output: true false 421
}
