package block_test

import (
	"compress/flate"
	"io"
	"math"
	"math/rand"
	"slices"
	"strings"
	"sync"
	"testing"

	"portage/api"
	"portage/block"
	"portage/inflate"
	"portage/match"
)

// lit and run are short forms of the two kinds of tokens.
func lit(b int) api.Token {
	return api.Token{Lit: b}
}

func run(n int, dist int) api.Token {
	return api.Token{Len: n, Dist: dist}
}

// with is a token for each byte of s, and others behind them.
func with(s string, ts ...api.Token) []api.Token {
	var out []api.Token
	for i := range len(s) {
		out = append(out, lit(int(s[i])))
	}
	return append(out, ts...)
}

// unlike is a text of n bytes, 512 at most, in which no three come again.
func unlike(n int) string {
	var b []byte
	for i := 0; len(b) < n; i++ {
		b = append(b, byte(i), byte(i+1))
	}
	return string(b[:n])
}

// readAgain asks that layer 7, and another program too, tell the text of a
// stream and leave no byte of it, and that a stream of one byte less is none.
func readAgain(t *testing.T, what string, stream string, s string) {
	t.Helper()
	got, took, e := inflate.Inflate(stream, len(s))
	if got != s || took != len(stream) || e != api.OK {
		t.Errorf("%s of %q: read as %q, %d of %d bytes, %d", what, s, got, took, len(stream), e)
	}
	from := strings.NewReader(stream)
	other, err := io.ReadAll(flate.NewReader(from))
	if string(other) != s || from.Len() != 0 || err != nil {
		t.Errorf("%s of %q: another reads %q, %d bytes left, %v", what, s, other, from.Len(), err)
	}
	if _, _, e := inflate.Inflate(stream[:len(stream)-1], len(s)); e == api.OK {
		t.Errorf("%s of %q: the last byte is too many", what, s)
	}
}

func checkStored(t *testing.T, s string) {
	t.Helper()
	got, e := block.Stored(s)
	if want := storedBytes(s); got != want || e != api.OK {
		t.Errorf("P8.1: Stored(%q): %q, %d, want %q", s, got, e, want)
		return
	}
	readAgain(t, "P8.1: Stored", got, s)
}

// checkCoded holds the blocks of tokens that may be against those of the
// model.
func checkCoded(t *testing.T, ts []api.Token) {
	t.Helper()
	s := textOf(ts)
	got, e := block.Fixed(ts)
	if want := packed(fixedRow(ts)); got != want || e != api.OK {
		t.Errorf("P8.2: Fixed(%v): %x, %d, want %x", ts, got, e, want)
	} else {
		readAgain(t, "P8.2: Fixed", got, s)
	}
	got, e = block.Dynamic(ts)
	if want := packed(dynamicRow(ts)); got != want || e != api.OK {
		t.Errorf("P8.3: Dynamic(%v): %x, %d, want %x", ts, got, e, want)
	} else {
		readAgain(t, "P8.3: Dynamic", got, s)
	}
}

func refusedStored(t *testing.T, s string) {
	t.Helper()
	if got, e := block.Stored(s); got != "" || e != api.ErrBlockForm {
		t.Errorf("P8.1: Stored of %d bytes: %d bytes, %d", len(s), len(got), e)
	}
}

func refusedCoded(t *testing.T, what string, ts []api.Token) {
	t.Helper()
	if got, e := block.Fixed(ts); got != "" || e != api.ErrBlockForm {
		t.Errorf("P8.2: Fixed of %s: %d bytes, %d", what, len(got), e)
	}
	if got, e := block.Dynamic(ts); got != "" || e != api.ErrBlockForm {
		t.Errorf("P8.3: Dynamic of %s: %d bytes, %d", what, len(got), e)
	}
}

// asBits asks for a stream that is told bit by bit.
func asBits(t *testing.T, what string, got string, e api.Errno, row string) {
	t.Helper()
	if want := packed(row); got != want || e != api.OK {
		t.Errorf("%s: %x, %d, want %x", what, got, e, want)
	}
}

func TestStoredBitByBit(t *testing.T) {
	got, e := block.Stored("")
	asBits(t, "P8.1: the empty text", got, e, "1 00 00000 00000000 00000000 11111111 11111111")
	got, e = block.Stored("a\x80")
	asBits(t, "P8.1: two bytes", got, e, "1 00 00000 01000000 00000000 10111111 11111111 10000110 00000001")
}

func TestStored(t *testing.T) {
	for n := range api.MaxText + 1 {
		checkStored(t, unlike(n))
		checkStored(t, strings.Repeat("\x00", n))
		checkStored(t, strings.Repeat("\xff", n))
	}
	for b := range 256 {
		checkStored(t, string([]byte{byte(b)}))
	}
	checkStored(t, strings.Repeat("ä", 150))
}

func TestStoredRefusesLongTexts(t *testing.T) {
	for _, n := range []int{301, 302, 556, 8192, 8193, 65536, 65537, 1 << 20} {
		refusedStored(t, strings.Repeat("x", n))
		refusedStored(t, strings.Repeat("\x00", n))
	}
}

func TestFixedBitByBit(t *testing.T) {
	for _, c := range []struct {
		ts  []api.Token
		row string
	}{
		{nil, "0000000"},
		{[]api.Token{lit(0)}, "00110000 0000000"},
		{[]api.Token{lit('a')}, "10010001 0000000"},
		{[]api.Token{lit(143), lit(144), lit(255)}, "10111111 110010000 111111111 0000000"},
		{[]api.Token{lit('a'), run(3, 1)}, "10010001 0000001 00000 0000000"},
		{with("ab", run(3, 2)), "10010001 10010010 0000001 00001 0000000"},
		// 20 is one above symbol 269's least length 19, two extra bits; the
		// distance 6 one above symbol 4's least one, 5, one extra bit.
		{with("abcdef", run(20, 6)), "10010001 10010010 10010011 10010100 10010101 10010110 0001101 10 00100 1 0000000"},
		// Symbols from 280 on have codes of 8 bits.
		{[]api.Token{lit('a'), run(257, 1)}, "10010001 11000100 01111 00000 0000000"},
		{[]api.Token{lit('a'), run(258, 1)}, "10010001 11000101 00000 0000000"},
	} {
		got, e := block.Fixed(c.ts)
		asBits(t, "P8.2: bit by bit", got, e, "1 10"+c.row)
		checkCoded(t, c.ts)
	}
}

func TestDynamicBitByBit(t *testing.T) {
	zeros := func(n int) string { return strings.Repeat("0", n) }
	// Behind 16, 17, 18 stands 0; 8 to 13, eleven of them; 2, 14, 1.
	small := func(zero, two, one string) string {
		return zeros(9) + zero + zeros(33) + two + zeros(3) + one
	}
	for _, c := range []struct {
		what string
		ts   []api.Token
		row  string
	}{
		// The end has no code alone: 0 has one too.
		{"no tokens", nil,
			"00000 00000 0111" + small("100", "000", "100") + "1" + zeros(255) + "1" + "0" + "1"},
		{"a byte", []api.Token{lit('a')},
			"00000 00000 0111" + small("100", "000", "100") + zeros(97) + "1" + zeros(158) + "1" + "0" + "01"},
		// Lengths: of a and the end 2, of 3 bytes 1, of the distances 1 and
		// (as there is just one) 2 one each.
		{"a copy", []api.Token{lit('a'), run(3, 1)},
			"10000 10000 0111" + small("100", "010", "010") + zeros(97) + "11" + zeros(158) + "11" + "10" + "10 10" + "10 0 0 11"},
	} {
		got, e := block.Dynamic(c.ts)
		asBits(t, "P8.3: "+c.what, got, e, "1 01"+c.row)
		checkCoded(t, c.ts)
	}
}

func TestNoTokens(t *testing.T) {
	for _, ts := range [][]api.Token{nil, {}, make([]api.Token, 0, 7)} {
		checkCoded(t, ts)
	}
}

func TestBytesAlone(t *testing.T) {
	for b := range 256 {
		checkCoded(t, []api.Token{lit(b)})
		checkCoded(t, []api.Token{lit(b), lit(255 - b), lit(b)})
	}
	for _, n := range []int{2, 3, 4, 255, 256, 257, 299, 300} {
		checkCoded(t, with(unlike(n)))
		checkCoded(t, with(strings.Repeat("a", n)))
		checkCoded(t, with(strings.Repeat("\x00", n)))
		checkCoded(t, with(strings.Repeat("\xff", n)))
		checkCoded(t, with(strings.Repeat("\x00\xff", n/2)))
	}
}

// different is each of n bytes once.
func different(n int) string {
	b := make([]byte, n)
	for i := range b {
		b[i] = byte(i)
	}
	return string(b)
}

// With 255 bytes and the end all codes have 8 bits: just 0 and 8 are told, and
// five lengths of codes do.
func TestFewLengthsOfCodes(t *testing.T) {
	for _, c := range []struct {
		bytes int
		want  int
	}{{254, 6}, {255, 5}, {256, 7}} {
		ts := with(different(c.bytes))
		checkCoded(t, ts)
		got, _ := block.Dynamic(ts)
		if many := int(got[1]>>5|got[2]<<3)&15 + 4; many != c.want {
			t.Errorf("P8.3: %d bytes: %d lengths of codes, want %d", c.bytes, many, c.want)
		}
	}
}

// stepped is bytes in groups: so many different ones, each so many times.
func stepped(groups ...[2]int) []api.Token {
	var ts []api.Token
	b := 0
	for _, g := range groups {
		for range g[0] {
			ts = append(ts, slices.Repeat([]api.Token{lit(b)}, g[1])...)
			b++
		}
	}
	return ts
}

// The codes of lengths have up to 7 bits, and would have up to 8, were they
// not bound.
func TestLengthsOfCodesAreBound(t *testing.T) {
	for _, c := range []struct {
		ts   []api.Token
		want int
	}{
		{stepped([2]int{37, 1}, [2]int{3, 2}, [2]int{4, 6}, [2]int{11, 7}, [2]int{1, 17}, [2]int{1, 47}, [2]int{1, 86}), 7},
		{stepped([2]int{37, 1}, [2]int{3, 3}, [2]int{4, 5}, [2]int{11, 9}, [2]int{1, 23}, [2]int{1, 37}, [2]int{1, 62}), 8},
	} {
		first, second := codeLengths(c.ts)
		if n := slices.Max(depths(often(without(first, 257), without(second, 1)))); n != c.want {
			t.Fatalf("the test is wrong: %d bits, want %d", n, c.want)
		}
		checkCoded(t, c.ts)
	}
}

// Counts that rise so that codes become long; those of a text's bytes never
// have 12 bits, as that would take 377 symbols.
func TestDeepCodes(t *testing.T) {
	var bytes []api.Token
	for b, times := range []int{1, 1, 1, 1, 4, 6, 10, 16, 26, 42, 68, 110} {
		bytes = append(bytes, slices.Repeat([]api.Token{lit(b)}, times)...)
	}
	copies := with(unlike(20))
	for i, times := range []int{1, 1, 1, 3, 4, 7, 11, 18, 29} {
		d := []int{1, 2, 3, 4, 6, 8, 12, 16, 20}[i]
		copies = append(copies, slices.Repeat([]api.Token{run(3, d)}, times)...)
	}
	first, _ := codeLengths(bytes)
	_, second := codeLengths(copies)
	if slices.Max(first) != 11 || slices.Max(second) != 8 {
		t.Fatalf("the test is wrong: %d and %d bits", slices.Max(first), slices.Max(second))
	}
	checkCoded(t, bytes)
	checkCoded(t, copies)
}

func TestEachLength(t *testing.T) {
	for n := 3; n <= 258; n++ {
		checkCoded(t, []api.Token{lit('a'), run(n, 1)})
		checkCoded(t, []api.Token{lit(255), lit('b'), lit(0), run(n, 2), run(3, 3)})
		checkCoded(t, with("abcdefgh", run(n, 8), lit('x')))
	}
	checkCoded(t, []api.Token{lit('a'), run(258, 1), run(3, 1), run(3, 259)})
	checkCoded(t, []api.Token{lit('a'), run(258, 1), run(41, 1)})
}

func TestEachDistance(t *testing.T) {
	for d := 1; d <= 297; d++ {
		checkCoded(t, with(unlike(d), run(3, d)))
		checkCoded(t, with(unlike(d), run(min(258, 300-d), d)))
		checkCoded(t, with(unlike(297), run(3, d)))
	}
}

// Copies of one distance alone have a code all the same, and so has a second
// distance, that is not used.
func TestCopiesOfOneDistance(t *testing.T) {
	for _, d := range []int{1, 2, 3, 4, 5, 6, 7, 24, 25, 128, 129, 192, 200} {
		ts := with(unlike(d))
		for n := range 5 {
			ts = append(ts, run(3+2*n, d), lit(n))
		}
		checkCoded(t, ts)
	}
	for n := 1; n <= 99; n++ {
		checkCoded(t, append([]api.Token{lit(7)}, slices.Repeat([]api.Token{run(3, 1)}, n)...))
	}
}

// All distances that a text has room for, so that their codes are of several
// lengths.
func TestCopiesOfManyDistances(t *testing.T) {
	ts := with(unlike(240))
	for d := 1; d <= 240; d += 12 {
		ts = append(ts, run(3, d))
	}
	checkCoded(t, ts)
	ts = with(unlike(2))
	for i := range 99 {
		ts = append(ts, run(3, 1<<(i%9)%(2+3*i)+1))
	}
	if n := len(textOf(ts)); n != 299 {
		t.Fatalf("the test is wrong: %d bytes", n)
	}
	checkCoded(t, ts)
}

func TestOneByteOverAndOver(t *testing.T) {
	for n := 1; n <= api.MaxText; n++ {
		for _, b := range []string{"\x00", "a", "\xff"} {
			ts, _ := match.Tokens(strings.Repeat(b, n))
			checkCoded(t, ts)
		}
	}
}

// mayFollow is what chapter 5 asks of one token behind so many bytes.
func mayFollow(x api.Token, ahead int) bool {
	if x.Len == 0 && x.Dist == 0 {
		return 0 <= x.Lit && x.Lit < 256
	}
	far := 1 <= x.Dist && x.Dist <= 32768 && x.Dist <= ahead
	return x.Lit == 0 && far && 3 <= x.Len && x.Len <= 258
}

func TestTokensThatMayNotBe(t *testing.T) {
	for _, ahead := range []int{0, 1, 3, 42} {
		for _, l := range []int{math.MinInt, -256, -1, 0, 1, 255, 256, 257, 285, 511, 1 << 32, math.MaxInt} {
			for _, n := range []int{math.MinInt, -3, -1, 0, 1, 2, 3, 4, 258, 259, 1<<32 + 3, math.MaxInt} {
				for _, d := range []int{math.MinInt, -1, 0, 1, 2, 3, 4, 42, 43, 32768, 32769, 1<<32 + 1, math.MaxInt} {
					x := api.Token{Lit: l, Len: n, Dist: d}
					ts := with(unlike(ahead), x)
					if mayFollow(x, ahead) {
						checkCoded(t, ts)
						continue
					}
					refusedCoded(t, "a token that may not be", ts)
					refusedCoded(t, "one with others behind it", append(ts, lit('a'), run(3, 1)))
				}
			}
		}
	}
	refusedCoded(t, "a copy of nothing", []api.Token{run(3, 1), lit('a')})
	refusedCoded(t, "a copy from one too far back", []api.Token{lit('a'), run(258, 1), run(3, 260)})
}

func TestMaxTextBytesInAll(t *testing.T) {
	checkCoded(t, with(unlike(300)))
	refusedCoded(t, "301 bytes", with(unlike(301)))
	refusedCoded(t, "301 equal bytes", make([]api.Token, 301))
	for n := 3; n <= 258; n++ {
		checkCoded(t, with(unlike(300-n), run(n, 1)))
		refusedCoded(t, "a copy of one too many", with(unlike(301-n), run(n, 1)))
	}
	checkCoded(t, []api.Token{lit(1), run(258, 1), run(41, 259)})
	refusedCoded(t, "copies of one too many", []api.Token{lit(1), run(258, 1), run(42, 1)})
	refusedCoded(t, "a byte too many", []api.Token{lit(1), run(258, 1), run(41, 1), lit(1)})
	copies := append([]api.Token{lit(1)}, slices.Repeat([]api.Token{run(258, 1)}, 31)...)
	refusedCoded(t, "MaxBytes bytes", append(slices.Clone(copies), run(193, 1)))
	refusedCoded(t, "more than MaxBytes bytes", append(slices.Clone(copies), run(194, 1)))
	refusedCoded(t, "very many bytes", make([]api.Token, 1<<20))
}

// byChance is tokens of at most MaxText bytes.
func byChance(r *rand.Rand) []api.Token {
	var ts []api.Token
	kinds, copies := 1+r.Intn(256), r.Intn(4)
	ahead, most := 0, r.Intn(api.MaxText+1)
	for ahead < most {
		long := min(258, most-ahead)
		if ahead == 0 || long < 3 || r.Intn(4) >= copies {
			ts = append(ts, lit(r.Intn(kinds)*255/kinds))
			ahead++
			continue
		}
		if r.Intn(4) > 0 {
			long = min(long, 20)
		}
		x := run(3+r.Intn(long-2), 1+r.Intn(ahead))
		ts = append(ts, x)
		ahead += x.Len
	}
	return ts
}

func TestTokensByChance(t *testing.T) {
	r := rand.New(rand.NewSource(8))
	for range 1500 {
		ts := byChance(r)
		checkCoded(t, ts)
		s := textOf(ts)
		checkStored(t, s)
		best, _ := match.Tokens(s)
		checkCoded(t, best)
	}
}

func TestTokensHandedInStay(t *testing.T) {
	for _, row := range [][]api.Token{
		nil,
		with("abcd", run(5, 3), run(3, 1)),
		with("abcd", run(5, 5), run(3, 1)),
		with(unlike(300)),
		with(unlike(301)),
	} {
		room := append(slices.Clone(row), api.Token{Lit: 7, Len: 8, Dist: 9}, lit(300))
		was := slices.Clone(room)
		given := room[:len(row)]
		block.Fixed(given)
		block.Dynamic(given)
		if !slices.Equal(room, was) {
			t.Errorf("R4: %v became %v", was, room)
		}
	}
	// An answer stays when what was handed in is changed later.
	ts := with("abc", run(3, 3))
	a, _ := block.Fixed(ts)
	b, _ := block.Dynamic(ts)
	clear(ts)
	readAgain(t, "R4: Fixed", a, "abcabc")
	readAgain(t, "R4: Dynamic", b, "abcabc")
}

func TestFromSeveralGoroutines(t *testing.T) {
	var all sync.WaitGroup
	for k := range 8 {
		all.Add(1)
		go func() {
			defer all.Done()
			r := rand.New(rand.NewSource(int64(k)))
			for range 20 {
				ts := byChance(r)
				checkCoded(t, ts)
				checkStored(t, textOf(ts))
			}
		}()
	}
	all.Wait()
}
