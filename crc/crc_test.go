package crc_test

import (
	"hash/crc32"
	"math"
	"math/rand"
	"strings"
	"testing"

	"portage/api"
	"portage/crc"
)

// mostSum is the greatest number that a sum can be.
const mostSum = 1<<32 - 1

// library is the sum as Go's own library reckons it.
func library(s string) int {
	return int(crc32.ChecksumIEEE([]byte(s)))
}

// chance makes a text of so many bytes.
func chance(r *rand.Rand, n int) string {
	b := make([]byte, n)
	for i := range b {
		b[i] = byte(r.Intn(256))
	}
	return string(b)
}

// samples are texts of many lengths, each length up to 40 among them.
func samples() []string {
	r := rand.New(rand.NewSource(2))
	var all []string
	for n := range 41 {
		all = append(all, chance(r, n))
	}
	for _, n := range []int{api.MaxText, api.MaxText + 1, api.MaxImage, api.MaxBytes, 1 << 17} {
		all = append(all, chance(r, n), strings.Repeat("\x00", n), strings.Repeat("\xff", n))
	}
	return all
}

// flip turns the bits of a text at which the pattern is 1, its bit 0 over the
// text's bit at.
func flip(s string, at int, pattern uint32) string {
	b := []byte(s)
	for k := range 32 {
		if pattern>>k&1 == 1 {
			b[(at+k)/8] ^= 1 << ((at + k) % 8)
		}
	}
	return string(b)
}

func TestOfKnownSums(t *testing.T) {
	known := map[string]int{
		"":                 0,
		"a":                0xE8B7BE43,
		"abc":              0x352441C2,
		"123456789":        0xCBF43926,
		"\x00":             0xD202EF8D,
		"\x00\x00\x00\x00": 0x2144DF1C,
		"\xff":             0xFF000000,
		"\xff\xff\xff\xff": mostSum,
		"The quick brown fox jumps over the lazy dog": 0x414FA339,
	}
	for s, want := range known {
		if got := crc.Of(s); got != want {
			t.Errorf("P2.1: Of(%q) = %#x, want %#x", s, got, want)
		}
	}
}

func TestOfEveryByte(t *testing.T) {
	for c := range 256 {
		s := string([]byte{byte(c)})
		if got := crc.Of(s); got != library(s) {
			t.Errorf("P2.1: Of(%q) = %#x, want %#x", s, got, library(s))
		}
	}
}

func TestOfManyLengths(t *testing.T) {
	for _, s := range samples() {
		got := crc.Of(s)
		if got != library(s) {
			t.Errorf("P2.1: Of of %d bytes = %#x, want %#x", len(s), got, library(s))
		}
		if got < 0 || got > mostSum {
			t.Errorf("P2.1: Of of %d bytes = %d is outside 0 to %d", len(s), got, mostSum)
		}
	}
}

func TestJoinBehindEveryBeginning(t *testing.T) {
	r := rand.New(rand.NewSource(22))
	for _, n := range []int{0, 1, 2, 3, 4, 5, 8, 33, api.MaxText} {
		s := chance(r, n)
		for k := range n + 1 {
			if got := crc.Join(crc.Of(s[:k]), s[k:]); got != library(s) {
				t.Fatalf("P2.2: %d bytes cut at %d: %#x, want %#x", n, k, got, library(s))
			}
		}
	}
}

func TestJoinByteByByte(t *testing.T) {
	s := chance(rand.New(rand.NewSource(23)), api.MaxText)
	sum := crc.Of("")
	for k := range len(s) {
		sum = crc.Join(sum, s[k:k+1])
		if sum != library(s[:k+1]) {
			t.Fatalf("P2.2: after %d bytes: %#x, want %#x", k+1, sum, library(s[:k+1]))
		}
	}
}

func TestJoinNothing(t *testing.T) {
	for _, a := range []int{0, 1, 0xCBF43926, 1 << 31, mostSum} {
		if got := crc.Join(a, ""); got != a {
			t.Errorf("P2.2: Join(%#x, \"\") = %#x", a, got)
		}
	}
	for _, s := range samples() {
		if got := crc.Join(0, s); got != crc.Of(s) {
			t.Errorf("P2.2: %d bytes behind the empty text: %#x, want %#x", len(s), got, crc.Of(s))
		}
	}
}

func TestJoinWraps(t *testing.T) {
	ends := map[int]int{
		-1:                mostSum,
		-mostSum:          1,
		-mostSum - 1:      0,
		-mostSum - 2:      mostSum,
		mostSum + 1:       0,
		mostSum + 2:       1,
		2*(mostSum+1) - 1: mostSum,
		math.MaxInt:       mostSum,
		math.MinInt:       0,
		math.MinInt + 1:   1,
	}
	for a, same := range ends {
		if got := crc.Join(a, ""); got != same {
			t.Errorf("P2.2: Join(%d, \"\") = %d, want %d", a, got, same)
		}
		if got, want := crc.Join(a, "portage"), crc.Join(same, "portage"); got != want {
			t.Errorf("P2.2: Join(%d, ..) = %d, but Join(%d, ..) = %d", a, got, same, want)
		}
	}
}

func TestJoinWrapsBehindTexts(t *testing.T) {
	const round = mostSum + 1
	for _, s := range samples() {
		k := len(s) / 2
		a := crc.Of(s[:k])
		for _, turns := range []int{-1 << 30, -256, -2, -1, 0, 1, 2, 255, 1 << 30} {
			got := crc.Join(a+turns*round, s[k:])
			if got != library(s) {
				t.Fatalf("P2.2: %d bytes, %d rounds off: %#x, want %#x", len(s), turns, got, library(s))
			}
		}
	}
}

func TestEachTurnedBitIsSeen(t *testing.T) {
	r := rand.New(rand.NewSource(24))
	for _, n := range []int{1, 2, 7, api.MaxText} {
		s := chance(r, n)
		sums := map[int]int{crc.Of(s): -1}
		for bit := range 8 * n {
			b := []byte(s)
			b[bit/8] ^= 1 << (bit % 8)
			sum := crc.Of(string(b))
			if other, had := sums[sum]; had {
				t.Fatalf("P2.3: %d bytes: bit %d has the sum of %d", n, bit, other)
			}
			sums[sum] = bit
		}
	}
}

func TestEachTurnedByteIsSeen(t *testing.T) {
	s := chance(rand.New(rand.NewSource(25)), 64)
	whole := crc.Of(s)
	for i := range len(s) {
		for x := 1; x < 256; x++ {
			b := []byte(s)
			b[i] ^= byte(x)
			if crc.Of(string(b)) == whole {
				t.Fatalf("P2.3: byte %d turned by %d is not seen", i, x)
			}
		}
	}
}

func TestBurstsOfUpTo32Bits(t *testing.T) {
	r := rand.New(rand.NewSource(26))
	for range 5000 {
		s := chance(r, 4+r.Intn(60))
		at := r.Intn(8*len(s) - 31)
		pattern := r.Uint32()>>r.Intn(32) | 1
		if crc.Of(flip(s, at, pattern)) == crc.Of(s) {
			t.Fatalf("P2.3: %q: bits %#x from %d on are not seen", s, pattern, at)
		}
	}
}

func TestWidestBursts(t *testing.T) {
	s := chance(rand.New(rand.NewSource(27)), 40)
	for at := range 8*len(s) - 31 {
		for _, pattern := range []uint32{1<<31 | 1, mostSum, 0xEDB88321, 0x04C11DB7 | 1<<31} {
			if crc.Of(flip(s, at, pattern)) == crc.Of(s) {
				t.Fatalf("P2.3: bits %#x from %d on are not seen", pattern, at)
			}
		}
	}
}

// A difference of 33 bits, the polynomial itself, is the shortest one that the
// sum misses; that it is missed shows that the bits are summed lowest first.
func TestBurstOf33BitsIsMissed(t *testing.T) {
	s := strings.Repeat("\x5a", 12)
	if crc.Of(flip(flip(s, 0, 1), 1, 0xEDB88320)) != crc.Of(s) {
		t.Errorf("P2.1: the polynomial's own pattern changes the sum")
	}
}
