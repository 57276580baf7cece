package mani_test

import (
	"math"
	"math/big"
	"math/rand"
	"strings"
	"testing"

	"wellspring/mani"
)

// P19.1: Name

// checkName asserts that Name says what the chapter says.
func checkName(t *testing.T, s string, want bool) {
	t.Helper()
	if got := mani.Name(s); got != want {
		t.Errorf("Name(%q) = %v, want %v", s, got, want)
	}
}

func TestNameOfEachLength(t *testing.T) {
	for n := range 300 {
		for _, c := range []string{"a", "m", "z", "0", "5", "9", "-"} {
			checkName(t, strings.Repeat(c, n), n >= 1 && n <= 12)
		}
	}
	for _, n := range []int{256, 257, 256 + 12, 65536, 65537, 65536 + 12, 1 << 24, 1<<24 + 1} {
		checkName(t, strings.Repeat("a", n), false)
	}
}

// Each byte at the first place, between and at the last, in texts of each length.
func TestNameOfEachByte(t *testing.T) {
	good := "abcdefghijklmnopqrstuvwxyz0123456789-"
	for c := range 256 {
		want := c < 128 && strings.Contains(good, string(rune(c)))
		for n := 1; n <= 13; n++ {
			for i := range n {
				b := []byte(strings.Repeat("k", n))
				b[i] = byte(c)
				checkName(t, string(b), want && n <= 12)
			}
		}
	}
}

func TestNameOfTwoBytes(t *testing.T) {
	for c := range 65536 {
		s := string([]byte{byte(c / 256), byte(c % 256)})
		checkName(t, s, isName.MatchString(s))
	}
}

func TestNameWrittenOut(t *testing.T) {
	for _, s := range []string{"a", "z", "0", "9", "-", "--", "-a", "a-", "0a", "well-spring", "abcdefghijkl", "123456789012", "a-0-z-9"} {
		checkName(t, s, true)
	}
	for _, s := range []string{
		"", " ", "a b", " a", "a ", "A", "Z", "aA", "aZz", "_", "a_b", ".", "a.b", "/", "a/b", ":", "`", "{", ",", "+", "a\n", "\n",
		"a\x00", "\x00", "a\r", "\ta", "abcdefghijklm", "1234567890123", "*", "%", "\x7f", "\x80", "\xff", "a\xff", "\xe1", "\xed\xa0\x80",
		"\xc3", "a\xc3", "\xa9", "é", "ß", "ä", "λ", "ａ", "０", "－", "–", "—", "\u00ad", "\u2010", "世界", "\U0001f4a7", "e\u0301", "\ufeffa",
	} {
		checkName(t, s, false)
	}
}

func TestNameByChance(t *testing.T) {
	r := rand.New(rand.NewSource(191))
	for range 100_000 {
		b := []byte(chanceName(r) + chanceName(r)[:1])
		if r.Intn(2) == 0 {
			b[r.Intn(len(b))] = byte(r.Intn(256))
		}
		checkName(t, string(b), isName.Match(b))
	}
}

// P19.1: Seed

// seedOf is 128 object + 16 block + try modulo 2^32, in whole numbers of any size.
func seedOf(object, block, try int) uint32 {
	sum := big.NewInt(int64(try))
	sum.Add(sum, new(big.Int).Mul(big.NewInt(128), big.NewInt(int64(object))))
	sum.Add(sum, new(big.Int).Mul(big.NewInt(16), big.NewInt(int64(block))))
	return uint32(sum.Mod(sum, big.NewInt(1<<32)).Uint64())
}

func checkSeed(t *testing.T, object, block, try int) {
	t.Helper()
	if got, want := mani.Seed(object, block, try), seedOf(object, block, try); got != want {
		t.Fatalf("Seed(%d, %d, %d) = %d, want %d", object, block, try, got, want)
	}
}

func TestSeedOfNumbersWithin(t *testing.T) {
	for _, object := range append(inside(0, 16777215), greatest().Drives...) {
		for block := range 8 {
			for try := range 16 {
				checkSeed(t, object, block, try)
			}
		}
	}
}

func TestSeedOfNumbersBeyond(t *testing.T) {
	list := append(outside(0, 16777215), 0, 1, 7, 8, 15, 16, 33554431, 33554432, 1<<25+1, 1<<28, 1<<32-1)
	for _, object := range list {
		for _, block := range list {
			for _, try := range list {
				checkSeed(t, object, block, try)
			}
		}
	}
}

func TestSeedWrittenOut(t *testing.T) {
	for _, c := range []struct {
		object, block, try int
		want               uint32
	}{
		{0, 0, 0, 0}, {0, 0, 1, 1}, {0, 1, 0, 16}, {1, 0, 0, 128}, {1, 1, 1, 145}, {3, 2, 5, 421}, {16777215, 7, 15, 2147483647},
		{33554431, 7, 15, 4294967295}, {33554432, 0, 0, 0}, {33554433, 0, 3, 131}, {-1, 0, 0, 4294967168}, {0, -1, 0, 4294967280},
		{0, 0, -1, 4294967295}, {0, 8, 0, 128}, {0, 0, 16, 16}, {-1, 8, 0, 0}, {math.MinInt, math.MinInt, math.MinInt, 0},
		{math.MaxInt, math.MaxInt, math.MaxInt, 4294967151}, {0, 268435456, 0, 0}, {0, 0, 4294967296, 0},
	} {
		if got := mani.Seed(c.object, c.block, c.try); got != c.want {
			t.Errorf("Seed(%d, %d, %d) = %d, want %d", c.object, c.block, c.try, got, c.want)
		}
	}
}

func TestSeedByChance(t *testing.T) {
	r := rand.New(rand.NewSource(192))
	for range 100_000 {
		checkSeed(t, int(r.Uint64()), int(r.Uint64()), int(r.Uint64()))
		checkSeed(t, int(r.Uint64()>>(r.Intn(64))), int(r.Uint64()>>(r.Intn(64))), int(r.Uint64()>>(r.Intn(64))))
	}
}
