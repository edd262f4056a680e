package deflate_test

import (
	"math"
	"math/rand"
	"strings"
	"testing"

	"portage/api"
	"portage/deflate"
	"portage/inflate"
)

// refuses asks for an error, and for nothing besides.
func refuses(t *testing.T, what string, method int, packed string, size int) {
	t.Helper()
	if got, e := deflate.Unpack(method, packed, size); got != "" || e != api.ErrDeflateForm {
		t.Errorf("P9.2: %s: Unpack(%d, %d bytes, %d): %d bytes, %d", what, method, len(packed), size, len(got), e)
	}
}

// samples is texts whose shortest streams are of each kind, with and without
// copies.
func samples() []string {
	return []string{
		"",
		"a",
		"aaaaa",
		strings.Repeat("x", 300),
		strings.Repeat("abc", 33),
		high(40),
		unlike(299),
		few(300, 256),
		few(300, 4),
		high(89) + few(211, 40),
	}
}

// methods is those that there are not.
func methods() []int {
	return []int{math.MinInt, -9, -8, -1, 1, 2, 4, 7, 9, 12, 14, 16, 24, 80, 256, 264, 1 << 16, 1 << 32, 1<<32 + 8, math.MaxInt}
}

// sizes is those that no text has.
func sizes() []int {
	return []int{math.MinInt, -1 << 32, -300, -1, 301, 302, 556, 8192, 8193, 65536, 1 << 32, 1<<32 + 300, math.MaxInt}
}

func TestMethodsThatAreNone(t *testing.T) {
	for _, s := range samples() {
		stream, _ := deflate.Deflate(s)
		for _, method := range methods() {
			refuses(t, "no method", method, s, len(s))
			refuses(t, "no method", method, stream, len(s))
			refuses(t, "no method", method, stream, len(stream))
		}
	}
}

func TestSizesThatAreNone(t *testing.T) {
	for _, s := range samples() {
		stream, _ := deflate.Deflate(s)
		for _, size := range sizes() {
			refuses(t, "no size", api.MethodStored, s, size)
			refuses(t, "no size", api.MethodDeflated, stream, size)
			refuses(t, "neither", 1, s, size)
		}
	}
}

// Of what has more than MaxText bytes nothing is told, though the size is
// right.
func TestTextsThatAreTooLong(t *testing.T) {
	for _, n := range []int{301, 302, 600, 8192, 8193} {
		for _, s := range []string{strings.Repeat("x", n), few(n, 256)} {
			refuses(t, "too long", api.MethodStored, s, n)
			refuses(t, "too long", api.MethodStored, s, 300)
			for _, level := range []int{-2, 0, 9} {
				stream := byOther(t, s, level)
				refuses(t, "too long", api.MethodDeflated, stream, n)
				refuses(t, "too long", api.MethodDeflated, stream, 300)
			}
		}
	}
}

func TestUnpackStored(t *testing.T) {
	for n := range api.MaxText + 1 {
		for _, s := range []string{few(n, 256), strings.Repeat("\x00", n)} {
			opens(t, api.MethodStored, s, s)
			refuses(t, "a byte too many", api.MethodStored, s+"\x00", n)
			refuses(t, "a byte too few", api.MethodStored, s, n+1)
			if n > 0 {
				refuses(t, "a byte too few", api.MethodStored, s[1:], n)
				refuses(t, "a byte too many", api.MethodStored, s, n-1)
				refuses(t, "nothing", api.MethodStored, "", n)
				refuses(t, "no bytes are asked for", api.MethodStored, s, 0)
			}
		}
	}
	opens(t, api.MethodStored, "", "")
}

func TestUnpackDeflated(t *testing.T) {
	for _, s := range samples() {
		for _, stream := range three(t, s) {
			opens(t, api.MethodDeflated, stream, s)
			for size := range api.MaxText + 1 {
				if size != len(s) {
					refuses(t, "another size", api.MethodDeflated, stream, size)
				}
			}
			for n := range len(stream) {
				refuses(t, "a stream that was cut", api.MethodDeflated, stream[:n], len(s))
			}
			for b := range 256 {
				refuses(t, "a byte behind", api.MethodDeflated, stream+string([]byte{byte(b)}), len(s))
			}
			refuses(t, "itself behind", api.MethodDeflated, stream+stream, len(s))
			refuses(t, "very many bytes behind", api.MethodDeflated, stream+few(1<<16, 256), len(s))
			refuses(t, "a byte ahead", api.MethodDeflated, "\x07"+stream, len(s))
		}
	}
}

// Streams of several blocks, and such as are longer than the text, are taken
// too.
func TestUnpackWhatOthersPacked(t *testing.T) {
	for _, s := range samples() {
		for level := -2; level <= 9; level++ {
			stream := byOther(t, s, level)
			opens(t, api.MethodDeflated, stream, s)
			refuses(t, "a byte behind", api.MethodDeflated, stream+"\x00", len(s))
			refuses(t, "a size too great", api.MethodDeflated, stream, len(s)+1)
			refuses(t, "a size too small", api.MethodDeflated, stream, len(s)-1)
		}
	}
	opens(t, api.MethodDeflated, "\x00\x01\x00\xfe\xffa\x01\x01\x00\xfe\xffb", "ab")
	refuses(t, "the last block is missing", api.MethodDeflated, "\x00\x01\x00\xfe\xffa\x00\x01\x00\xfe\xffb", 2)
	refuses(t, "a block behind the last one", api.MethodDeflated, "\x01\x01\x00\xfe\xffa\x01\x01\x00\xfe\xffb", 2)
	refuses(t, "a block behind the last one", api.MethodDeflated, "\x01\x01\x00\xfe\xffa\x01\x01\x00\xfe\xffb", 1)
}

// The bits behind a stream's end are not asked, as long as its last byte is
// begun.
func TestBitsBehindTheEnd(t *testing.T) {
	opens(t, api.MethodDeflated, "\x03\x00", "")
	opens(t, api.MethodDeflated, "\x03\xfc", "")
	refuses(t, "a bit of the end is turned", api.MethodDeflated, "\x03\x02", 0)
}

func TestUnpackNoStream(t *testing.T) {
	for _, x := range []string{
		"",
		// No kind of block.
		"\x07",
		"\x07\x00\x00\x00\x00",
		// How many stored bytes there are is not turned; the byte is missing.
		"\x01\x01\x00\xff\xff",
		"\x01\x01\x00\xfe\xff",
		// A copy of nothing.
		"\x03\x02\x00",
		"hello",
		strings.Repeat("\x00", 40),
		strings.Repeat("\xff", 40),
	} {
		for size := range api.MaxText + 1 {
			refuses(t, "no stream", api.MethodDeflated, x, size)
		}
	}
}

// checkAny holds what is told of any bytes against what layer 7 tells.
func checkAny(t *testing.T, x string, size int) bool {
	t.Helper()
	text, took, e := inflate.Inflate(x, size)
	if e == api.OK && took == len(x) && len(text) == size {
		opens(t, api.MethodDeflated, x, text)
		return true
	}
	refuses(t, "any bytes", api.MethodDeflated, x, size)
	return false
}

func TestUnpackAnyBytes(t *testing.T) {
	r := rand.New(rand.NewSource(10))
	told, refused := 0, 0
	for range 3000 {
		s := byChance(r, api.MaxText)
		x := []byte(three(t, s)[r.Intn(3)])
		for range r.Intn(3) {
			x[r.Intn(len(x))] ^= 1 << r.Intn(8)
		}
		for _, size := range []int{len(s), min(len(s)+1, api.MaxText), max(len(s)-1, 0), r.Intn(api.MaxText + 1)} {
			if checkAny(t, string(x), size) {
				told++
			} else {
				refused++
			}
		}
	}
	if told < 500 || refused < 500 {
		t.Errorf("the test is wrong: %d are told, %d are not", told, refused)
	}
}
