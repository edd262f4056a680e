package entry_test

import (
	"hash/crc32"
	"math"
	"strconv"
	"strings"
	"testing"

	"portage/api"
	"portage/deflate"
	"portage/entry"
)

func TestNothing(t *testing.T) {
	checkNone(t, "the zero value", api.Entry{})
	checkNone(t, "a name alone", api.Entry{Name: "m"})
	checkNone(t, "gone alone", api.Entry{Gone: true})
}

func TestMethods(t *testing.T) {
	for _, s := range texts() {
		for _, method := range []int{-8, -1, 1, 2, 7, 9, 16, 256, 264, 65536, 65544, 1 << 32, 1<<32 + 8, math.MinInt, math.MaxInt} {
			checkNone(t, "Method "+strconv.Itoa(method), with(stored(s), func(e *api.Entry) { e.Method = method }))
			checkNone(t, "Method "+strconv.Itoa(method), with(packed(s), func(e *api.Entry) { e.Method = method }))
		}
		// By the other method the same bytes are another text, or none.
		checkNone(t, "stored, told as deflated", with(stored(s), func(e *api.Entry) { e.Method = 8 }))
		if stream, _ := deflate.Deflate(s); stream != s {
			checkNone(t, "deflated, told as stored", file(s, 0, stream))
		}
	}
}

func TestSizes(t *testing.T) {
	for _, s := range texts() {
		n := len(s)
		for _, e := range []api.Entry{stored(s), packed(s), flated(6, s)} {
			for _, size := range []int{n - 1, n + 1, n - 256, n + 256, -n - 1, -1, most + 1, n + 1<<32, n - 1<<32, math.MinInt, math.MaxInt, 299, most, 0, 1} {
				if size != n {
					checkNone(t, strconv.Itoa(n)+" bytes, Size "+strconv.Itoa(size), with(e, func(e *api.Entry) { e.Size = size }))
				}
			}
		}
	}
}

func TestSums(t *testing.T) {
	for _, s := range texts() {
		for _, e := range []api.Entry{stored(s), packed(s)} {
			for bit := range 63 {
				checkNone(t, "a sum of which a bit is turned", with(e, func(e *api.Entry) { e.Crc ^= 1 << bit }))
			}
			sum := e.Crc
			for _, other := range []int{sum + 1, sum - 1, sum - 1<<32, sum + 1<<32, -sum - 1, sums - sum, math.MinInt, math.MaxInt, 0, sums} {
				if other != sum {
					checkNone(t, "another sum", with(e, func(e *api.Entry) { e.Crc = other }))
				}
			}
		}
	}
	// Texts of the least and of the greatest sum.
	least, greatest := stored("\x9d\x0a\xd9\x6d"), stored("\xff\xff\xff\xff")
	if least.Crc != 0 || greatest.Crc != sums {
		t.Fatal("the test is wrong")
	}
	checkText(t, "the least sum", least, "\x9d\x0a\xd9\x6d")
	checkText(t, "the greatest sum", greatest, "\xff\xff\xff\xff")
	checkNone(t, "-1 for the greatest sum", with(greatest, func(e *api.Entry) { e.Crc = -1 }))
	checkNone(t, "2^32 for the least sum", with(least, func(e *api.Entry) { e.Crc = 1 << 32 }))
}

// The sum is that of the text, not of the bytes packed.
func TestSumsOfPackedBytes(t *testing.T) {
	for _, s := range texts() {
		if e := flated(6, s); len(e.Packed) <= most {
			checkNone(t, "the stream's own sum", with(e, func(e *api.Entry) { e.Crc = int(crc32.ChecksumIEEE([]byte(e.Packed))) }))
		}
	}
}

// Texts that are as long, but other ones.
func TestOtherTexts(t *testing.T) {
	for _, s := range texts() {
		if s == "" {
			continue
		}
		for _, place := range []int{0, len(s) / 2, len(s) - 1} {
			b := []byte(s)
			b[place] ^= 0x20
			other := string(b)
			checkNone(t, "another text stored", with(stored(s), func(e *api.Entry) { e.Packed = other }))
			checkNone(t, "another text", with(packed(s), func(e *api.Entry) {
				e.Method, e.Packed = packed(other).Method, packed(other).Packed
			}))
		}
	}
}

func TestBytesThatAreNoText(t *testing.T) {
	for what, stream := range map[string]string{
		"nothing": "", "a wrong kind of block": "\x07\x00", "no last block": "\x02\x00", "no end": "\x4b",
		"a stored block of wrong length": "\x01\x03\x00\x03\x00abc", "a stored block that is cut": "\x01\x03\x00\xfc\xffab",
		"a copy of nothing": "\x03\x02\x00", "bytes that are no stream": "\xff\xff\xff\xff", "no block at all": strings.Repeat("\x00", 9),
		"a block that is not the last": "\x00" + block("abc")[1:], "two ends": block("abc") + block(""),
	} {
		for _, s := range []string{"", "abc", "abcdef"} {
			checkNone(t, what, file(s, 8, stream))
		}
	}
}

func TestStreamsThatAreCutOrLonger(t *testing.T) {
	for _, s := range texts() {
		e := flated(9, s)
		for cut := range min(len(e.Packed), most) {
			checkNone(t, "a stream that is cut", with(e, func(e *api.Entry) { e.Packed = e.Packed[:cut] }))
		}
		for _, more := range []string{"\x00", "x", "\x03\x00", e.Packed} {
			checkNone(t, "a stream with more behind it", with(e, func(e *api.Entry) { e.Packed += more }))
		}
		checkNone(t, "a stream with more ahead", with(e, func(e *api.Entry) { e.Packed = "\x01" + e.Packed }))
		checkNone(t, "stored, with more behind", with(stored(s), func(e *api.Entry) { e.Packed += "x" }))
		checkNone(t, "stored, with more behind, and Size", with(stored(s), func(e *api.Entry) { e.Packed, e.Size = e.Packed+"x", e.Size+1 }))
		if s != "" {
			checkNone(t, "stored, cut", with(stored(s), func(e *api.Entry) { e.Packed = e.Packed[1:] }))
			checkNone(t, "stored, cut, and Size", with(stored(s), func(e *api.Entry) { e.Packed, e.Size = e.Packed[1:], e.Size-1 }))
		}
	}
	checkNone(t, "far too much stored", stored(strings.Repeat("m", 70000)))
	checkNone(t, "far too much deflated", flated(0, strings.Repeat("m", 70000)))
	checkNone(t, "a stream that comes to far too much", flated(9, strings.Repeat("m", 70000)))
}

// Some bits of a stream may be turned without a change of the text: what it
// comes to is asked, not how it is told.
func TestTurnedBytes(t *testing.T) {
	may, not := 0, 0
	for _, s := range []string{"", "aaaaa", "abcabcabcd", strings.Repeat("portage ", 3)} {
		for _, whole := range []api.Entry{packed(s), flated(6, s), stored(s)} {
			for place := range whole.Packed {
				for by := 1; by < 256; by++ {
					b := []byte(whole.Packed)
					b[place] ^= byte(by)
					e := with(whole, func(e *api.Entry) { e.Packed = string(b) })
					got, err := deflate.Unpack(e.Method, e.Packed, e.Size)
					if err == api.OK && got == s {
						checkText(t, "a turned byte", e, s)
						may++
						continue
					}
					if entry.May(e) {
						t.Errorf("P15.1: May(%v): true, of %q", e, got)
					}
					if got, err := entry.Text(e); got != "" || err != api.ErrEntryForm {
						t.Errorf("P15.1: Text(%v): %q, %d", e, got, err)
					}
					not++
				}
			}
		}
	}
	if may == 0 || not == 0 {
		t.Errorf("the test is wrong: %d, %d", may, not)
	}
}

// Of two things that are wrong none makes the other right.
func TestTwoThingsWrong(t *testing.T) {
	turns := []func(e *api.Entry){
		func(e *api.Entry) { e.Name = "M" },
		func(e *api.Entry) { e.Vec = []int{1, 2, 3} },
		func(e *api.Entry) { e.Vec[2] = -1 },
		func(e *api.Entry) { e.Stamp = 0 },
		func(e *api.Entry) { e.Node = 4 },
		func(e *api.Entry) { e.Method++ },
		func(e *api.Entry) { e.Packed += "x" },
		func(e *api.Entry) { e.Size = -1 },
		func(e *api.Entry) { e.Crc ^= 1 << 31 },
	}
	for _, e := range []api.Entry{stored("abc"), packed(strings.Repeat("abc", 9)), gone()} {
		for i, first := range turns {
			checkNone(t, "turn "+strconv.Itoa(i), with(e, first))
			for k, second := range turns[i+1:] {
				checkNone(t, "turns "+strconv.Itoa(i)+", "+strconv.Itoa(i+1+k), with(with(e, first), second))
			}
		}
	}
}
