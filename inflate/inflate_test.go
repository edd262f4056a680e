package inflate_test

import (
	"math"
	"slices"
	"strings"
	"sync"
	"testing"

	"portage/api"
	"portage/inflate"
	"portage/match"
)

// sample is a right stream and its text.
type sample struct {
	name, stream, text string
}

func samples() []sample {
	long := strings.Repeat("abc", 300)
	return []sample{
		{"stored, empty", (&pen{}).stored(1, "").text(), ""},
		{"stored", (&pen{}).stored(1, "hello").text(), "hello"},
		{"stored, 300 bytes", (&pen{}).stored(1, long[:300]).text(), long[:300]},
		{"stored, filled up with ones", (&pen{}).head(1, 0).align(1).put(2, 16).put(0xfffd, 16).raw("hi").text(), "hi"},
		{"stored, three", (&pen{}).stored(0, "one").stored(0, "").stored(1, "two").text(), "onetwo"},
		{"fixed, empty", "\x03\x00", ""},
		{"fixed, all bytes", (&pen{}).fixed(1, lits(allBytes())...).text(), allBytes()},
		{"fixed, copies", (&pen{}).fixed(1, with("abc", run(3, 3), run(5, 1), run(4, 11))...).text(), "abcabccccccabca"},
		{"fixed, two", (&pen{}).fixed(0, lits("ab")...).fixed(1, run(4, 2)).text(), "ababab"},
		{"dynamic, empty", (&pen{}).dynamic(1, plainBook()).text(), ""},
		{"dynamic", (&pen{}).dynamic(1, plainBook(), with("abc", run(10, 3), run(258, 1))...).text(), "abcabcabcabca" + strings.Repeat("a", 258)},
		{"dynamic, two", (&pen{}).dynamic(0, plainBook(), lits("abc")...).dynamic(1, plainBook(), run(3, 3), run(3, 5)).text(), "abcabcbca"},
		{"mixed", (&pen{}).fixed(0, lits("xy")...).stored(0, "z").dynamic(0, plainBook(), run(3, 3)).fixed(0).stored(0, "").stored(1, "end").text(), "xyzxyzend"},
		{"mixed, no last stored one", (&pen{}).stored(0, "zab").dynamic(0, plainBook(), with("c", run(3, 4))...).fixed(1, run(3, 7)).text(), "zabczabzab"},
	}
}

func allBytes() string {
	var b []byte
	for i := range 256 {
		b = append(b, byte(i))
	}
	return string(b)
}

func TestStreamsAreRead(t *testing.T) {
	for _, x := range samples() {
		for _, most := range []int{len(x.text), len(x.text) + 1, len(x.text) + 300, api.MaxBytes} {
			takes(t, x.name, x.stream, most, x.text, len(x.stream))
		}
	}
}

func TestABoundThatIsTooLow(t *testing.T) {
	for _, x := range samples() {
		for most := range len(x.text) {
			refuses(t, x.name, x.stream, most, api.ErrInflateLong)
		}
	}
}

func TestBytesBehindAStream(t *testing.T) {
	for _, x := range samples() {
		for _, behind := range []string{"\x00", "\xff", "\x03\x00", "any bytes, many of them", x.stream} {
			takes(t, x.name, x.stream+behind, api.MaxBytes, x.text, len(x.stream))
		}
	}
}

// A stream that ends within a byte, or with one, takes no byte that it did not
// begin, whatever the bits behind it are.
func TestHowManyBytesAreTaken(t *testing.T) {
	for n := range 17 {
		for fill := range 2 {
			// Bytes from 144 on have codes of 9 bits, so that each bit of a
			// byte is the last one once.
			s := strings.Repeat("\xc8", n)
			p := (&pen{}).fixed(1, lits(s)...)
			took := (p.bits + 7) / 8
			if took != (3+9*n+7+7)/8 {
				t.Fatalf("the test is wrong: %d", took)
			}
			p.align(fill)
			takes(t, "ends within a byte", p.text(), n, s, took)
			takes(t, "ends within a byte", p.put(0xaaaa, 16).text(), n, s, took)
		}
	}
}

func TestStreamsThatAreCutOff(t *testing.T) {
	for _, x := range samples() {
		for k := range len(x.stream) {
			refuses(t, x.name+", cut off", x.stream[:k], api.MaxBytes, api.ErrInflateForm)
			refuses(t, x.name+", cut off", x.stream[:k], len(x.text), api.ErrInflateForm)
		}
	}
	refuses(t, "no bytes", "", 0, api.ErrInflateForm)
	refuses(t, "no bytes", "", 9, api.ErrInflateForm)
}

// Where a stream is cut off, what stands ahead of that may pass the bound.
func TestCutOffOrTooLong(t *testing.T) {
	x := (&pen{}).stored(1, "hello").text()
	for k := range 5 {
		faulty(t, "stored bytes that are not there", x[:5+k], k)
	}
	s := strings.Repeat("a", 40)
	x = (&pen{}).fixed(1, lits(s)...).text()
	for k := 1; k < len(x); k++ {
		faulty(t, "fixed, cut off", x[:k], (8*k-3)/8)
	}
	faulty(t, "no last block", (&pen{}).stored(0, "abc").text(), 3)
	faulty(t, "a fixed one that is no last one", (&pen{}).fixed(0, lits("abc")...).text(), 3)
}

func TestBoundsThatMayNotBe(t *testing.T) {
	for _, x := range samples() {
		for _, most := range []int{-1, math.MinInt, math.MinInt32, api.MaxBytes + 1, 1 << 16, math.MaxInt32, math.MaxInt} {
			refuses(t, x.name, x.stream, most, api.ErrInflateForm)
		}
	}
	refuses(t, "no stream", "\x07", -1, api.ErrInflateForm)
}

func TestAsManyBytesAsMayBe(t *testing.T) {
	s := strings.Repeat("0123456789abcdef", api.MaxBytes/16)
	whole := (&pen{}).stored(1, s).text()
	takes(t, "all there may be, stored", whole, api.MaxBytes, s, len(whole))
	refuses(t, "all there may be, stored", whole, api.MaxBytes-1, api.ErrInflateLong)
	refuses(t, "one more, stored", (&pen{}).stored(1, s+"x").text(), api.MaxBytes, api.ErrInflateLong)
	refuses(t, "65535, stored", (&pen{}).stored(1, strings.Repeat("x", 65535)).text(), api.MaxBytes, api.ErrInflateLong)
	faulty(t, "65535, most of them not there", (&pen{}).stored(1, strings.Repeat("x", 65535)).text()[:5+20], 20)
	// 1 and 31 times 258 and 193 bytes.
	ts := append(lits("x"), slices.Repeat([]api.Token{run(258, 1)}, 31)...)
	ts = append(ts, run(193, 1))
	x := (&pen{}).fixed(1, ts...).text()
	takes(t, "all there may be, copied", x, api.MaxBytes, strings.Repeat("x", api.MaxBytes), len(x))
	refuses(t, "all there may be, copied", x, api.MaxBytes-1, api.ErrInflateLong)
	refuses(t, "one more, copied", (&pen{}).fixed(1, append(ts, lits("x")...)...).text(), api.MaxBytes, api.ErrInflateLong)
	refuses(t, "a copy more", (&pen{}).fixed(1, append(ts, run(3, 1))...).text(), api.MaxBytes, api.ErrInflateLong)
}

func TestABoundOfNone(t *testing.T) {
	takes(t, "fixed", "\x03\x00", 0, "", 2)
	takes(t, "stored", "\x01\x00\x00\xff\xff", 0, "", 5)
	p := (&pen{}).stored(0, "").fixed(0).dynamic(0, plainBook()).stored(0, "").fixed(1)
	takes(t, "five blocks", p.text(), 0, "", len(p.text()))
	refuses(t, "a byte", (&pen{}).fixed(1, lits("x")...).text(), 0, api.ErrInflateLong)
	refuses(t, "a byte, then kind 3", (&pen{}).fixed(0, lits("x")...).head(1, 3).text(), 0, api.ErrInflateLong)
	refuses(t, "a copy of nothing", (&pen{}).fixed(1, run(3, 1)).text(), 0, api.ErrInflateForm)
}

func TestVeryManyBlocks(t *testing.T) {
	p := &pen{}
	for range 40000 {
		p.head(0, 1).row("0000000")
	}
	p.fixed(0, lits("x")...)
	for range 40000 {
		p.stored(0, "")
	}
	p.fixed(1, run(3, 1))
	takes(t, "very many blocks", p.text(), 4, "xxxx", len(p.text()))
	refuses(t, "very many blocks", p.text(), 3, api.ErrInflateLong)
}

func TestBlocksOfKind3(t *testing.T) {
	for last := range 2 {
		faulty(t, "kind 3", (&pen{}).head(last, 3).put(0, 40).text(), 0)
		faulty(t, "kind 3 behind others", (&pen{}).fixed(0, lits("abc")...).head(last, 3).put(0, 40).text(), 3)
		faulty(t, "kind 3 behind a stored one", (&pen{}).stored(0, "ab").head(last, 3).put(0, 40).text(), 2)
	}
	// Behind the last block nothing is asked.
	takes(t, "kind 3 behind the last one", (&pen{}).stored(1, "ab").head(1, 3).text(), 9, "ab", 7)
}

func TestStoredBlocksThatDoNotFit(t *testing.T) {
	for _, c := range []struct{ many, turned int }{
		{2, 2}, {2, 0xfffc}, {2, 0xffff}, {2, 0x00fd}, {2, 0xff00}, {2, 0x7ffd}, {0, 0}, {0, 0xfffe}, {0xffff, 0xffff}, {0x0200, 0xfffd}, {2, 0xfdff},
	} {
		p := (&pen{}).head(1, 0).align(0).put(c.many, 16).put(c.turned, 16).raw("hi, and many more")
		faulty(t, "stored, turned wrong", p.text(), 0)
	}
	for i := range 16 {
		p := (&pen{}).stored(0, "abc").head(1, 0).align(0).put(2, 16).put(0xfffd^1<<i, 16).raw("hi")
		faulty(t, "stored, a bit turned wrong", p.text(), 3)
	}
}

func TestStoredBytesAreAsked(t *testing.T) {
	x := (&pen{}).stored(1, "hi").text()
	refuses(t, "one is not there", x[:6], 2, api.ErrInflateForm)
	refuses(t, "one is not there, ahead of being too many", x[:6], 1, api.ErrInflateForm)
	refuses(t, "one is too many, ahead of one that is not there", x[:6], 0, api.ErrInflateLong)
	refuses(t, "none is there", x[:5], 0, api.ErrInflateForm)
	refuses(t, "one is too many", x, 1, api.ErrInflateLong)
	long := (&pen{}).stored(1, strings.Repeat("x", 0x1234)).text()
	takes(t, "the lowest byte of the number first", long, api.MaxBytes, strings.Repeat("x", 0x1234), 5+0x1234)
}

func TestFixedSymbolsThatAreNone(t *testing.T) {
	for symbol := 286; symbol < 288; symbol++ {
		p := (&pen{}).head(1, 1).symbol(fixedBook().bytes, symbol).put(0, 60)
		faulty(t, "fixed, no length", p.text(), 0)
		p = (&pen{}).head(1, 1).symbol(fixedBook().bytes, 'a').symbol(fixedBook().bytes, symbol).put(0, 60)
		faulty(t, "fixed, no length behind a byte", p.text(), 1)
	}
	for far := 30; far < 32; far++ {
		for fill := range 2 {
			p := (&pen{}).head(1, 1)
			p.symbol(fixedBook().bytes, 'a').symbol(fixedBook().bytes, 257).symbol(fixedBook().dists, far)
			for range 60 {
				p.put(fill, 1)
			}
			faulty(t, "fixed, no distance", p.text(), 1)
		}
	}
}

// Each length and each distance of a fixed block, from a text that is long
// enough.
func TestFixedLengthsAndDistances(t *testing.T) {
	var ahead []byte
	for i := range 7000 {
		ahead = append(ahead, byte(i*i>>3))
	}
	s := string(ahead)
	for n := 3; n <= 258; n++ {
		x := (&pen{}).stored(0, s).fixed(1, run(n, 300)).text()
		takes(t, "a length", x, api.MaxBytes, s+s[6700:6700+n], len(x))
	}
	for _, dist := range []int{1, 2, 3, 4, 5, 6, 7, 8, 9, 12, 13, 16, 17, 24, 25, 32, 33, 48, 49, 64, 65, 96, 97, 128, 129, 192, 193, 256, 257, 384, 385, 512, 513, 768, 769, 1024, 1025, 1536, 1537, 2048, 2049, 3072, 3073, 4096, 4097, 6144, 6145, 7000} {
		want, e := match.Expand(with(s, run(20, dist)))
		if e != api.OK {
			t.Fatal(e)
		}
		x := (&pen{}).stored(0, s).fixed(1, run(20, dist)).text()
		takes(t, "a distance", x, api.MaxBytes, want, len(x))
	}
	for _, dist := range []int{7001, 8192, 8193, 16384, 16385, 24577, 32768} {
		x := (&pen{}).stored(0, s).fixed(1, run(20, dist)).text()
		refuses(t, "a distance that is too far", x, api.MaxBytes, api.ErrInflateForm)
		refuses(t, "a distance that is too far", x, 7000, api.ErrInflateForm)
		refuses(t, "a distance that is too far", x, 6999, api.ErrInflateLong)
	}
}

func TestCopies(t *testing.T) {
	for _, c := range []struct {
		name string
		ts   []api.Token
		want string
	}{
		{"from one back", with("ab", run(9, 1)), "abbbbbbbbbb"},
		{"from the text's beginning", with("abcd", run(4, 4)), "abcdabcd"},
		{"from the beginning, into itself", with("abc", run(7, 3)), "abcabcabca"},
		{"from the beginning, a part", with("abcdef", run(3, 6)), "abcdefabc"},
		{"of a copy", with("ab", run(3, 2), run(4, 5)), "ababaabab"},
		{"the longest one", with("q", run(258, 1)), strings.Repeat("q", 259)},
	} {
		x := (&pen{}).fixed(1, c.ts...).text()
		takes(t, c.name, x, len(c.want), c.want, len(x))
		refuses(t, c.name, x, len(c.want)-1, api.ErrInflateLong)
	}
	for n := range 6 {
		s := "abcdef"[:n]
		faulty(t, "one farther than the text", (&pen{}).fixed(1, with(s, run(3, n+1))...).text(), n)
		faulty(t, "one farther, in a second block", (&pen{}).stored(0, s).fixed(1, run(3, n+1)).text(), n)
		faulty(t, "much farther", (&pen{}).fixed(1, with(s, run(258, 32768))...).text(), n)
	}
}

// A copy is asked byte by byte, but its distance ahead of its first byte, and
// what is wrong behind it only behind its last one.
func TestACopyPassesTheBound(t *testing.T) {
	x := (&pen{}).fixed(1, with("ab", run(6, 2))...).text()
	for most := range 8 {
		refuses(t, "in its midst", x, most, api.ErrInflateLong)
	}
	takes(t, "just enough", x, 8, "abababab", len(x))
	faulty(t, "wrong behind a copy", (&pen{}).fixed(0, with("ab", run(6, 2))...).head(1, 3).text(), 8)
	faulty(t, "too far behind a copy", (&pen{}).fixed(1, with("ab", run(6, 2), run(3, 9))...).text(), 8)
	book := fixedBook()
	p := (&pen{}).head(1, 1).symbol(book.bytes, 200).symbol(book.bytes, 201).symbol(book.bytes, 285)
	// What is left of the last byte must not be a distance's five bits.
	if p.bits%8 != 5 {
		t.Fatal("the test is wrong")
	}
	faulty(t, "a copy without its distance", p.text(), 2)
}

func TestSymbol284With31(t *testing.T) {
	want := strings.Repeat("a", 259)
	for name, b := range map[string]book{"fixed": fixedBook(), "dynamic": plainBook()} {
		p := &pen{}
		if name == "fixed" {
			p.head(1, 1)
		} else {
			p.lengths(1, b)
		}
		p.symbol(b.bytes, 'a').symbol(b.bytes, 284).put(31, 5).symbol(b.dists, 0).symbol(b.bytes, 256)
		takes(t, name+", 284 with 31", p.text(), 259, want, len(p.text()))
		refuses(t, name+", 284 with 31", p.text(), 258, api.ErrInflateLong)
	}
	x := (&pen{}).fixed(1, with("a", run(257, 1))...).text()
	takes(t, "284 with 30", x, 258, want[:258], len(x))
}

// Nothing is kept from call to call, and several may call at one time.
func TestCallsSideBySide(t *testing.T) {
	var all sync.WaitGroup
	for range 8 {
		all.Go(func() {
			for _, x := range samples() {
				got, took, e := inflate.Inflate(x.stream, api.MaxBytes)
				if got != x.text || took != len(x.stream) || e != api.OK {
					t.Errorf("P7.1: %s: %q, %d, %d", x.name, brief(got), took, e)
				}
				if got, took, e := inflate.Inflate(x.stream[1:]+"\x07", 5); e != api.OK && (got != "" || took != 0) {
					t.Errorf("P7.1: %s: %q, %d, %d", x.name, brief(got), took, e)
				}
			}
		})
	}
	all.Wait()
}
