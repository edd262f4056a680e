package match_test

import (
	"math"
	"math/rand"
	"slices"
	"strings"
	"sync"
	"testing"

	"portage/api"
	"portage/match"
)

// lit and run are short forms of the two kinds of tokens.
func lit(b int) api.Token {
	return api.Token{Lit: b}
}

func run(n int, dist int) api.Token {
	return api.Token{Len: n, Dist: dist}
}

// bytesOf is a token for each byte of s.
func bytesOf(s string) []api.Token {
	var ts []api.Token
	for i := range len(s) {
		ts = append(ts, lit(int(s[i])))
	}
	return ts
}

// wantTokens finds copies in another way than byte by byte: from the longest
// piece down, the last place ahead at which the whole piece stands.
func wantTokens(s string) []api.Token {
	var ts []api.Token
	for at := 0; at < len(s); {
		t, n := lit(int(s[at])), 1
		for long := min(258, len(s)-at); long >= 3; long-- {
			from := strings.LastIndex(s[:at+long-1], s[at:at+long])
			if from >= 0 {
				t, n = run(long, at-from), long
				break
			}
		}
		ts = append(ts, t)
		at += n
	}
	return ts
}

// wantText is the text of tokens that may be: a copy is its piece, again and
// again, cut.
func wantText(ts []api.Token) string {
	s := ""
	for _, t := range ts {
		if t.Len == 0 {
			s += string([]byte{byte(t.Lit)})
			continue
		}
		piece := s[len(s)-t.Dist:]
		s += strings.Repeat(piece, t.Len/t.Dist+1)[:t.Len]
	}
	return s
}

// unlike is a text of n bytes, 512 at most, in which no three come again.
func unlike(n int) string {
	var b []byte
	for i := 0; len(b) < n; i++ {
		b = append(b, byte(i), byte(i+1))
	}
	return string(b[:n])
}

func checkTokens(t *testing.T, s string, want []api.Token) {
	t.Helper()
	got, e := match.Tokens(s)
	if e != api.OK || !slices.Equal(got, want) {
		t.Errorf("P5.1: Tokens(%q): %v, %d, want %v", s, got, e, want)
	}
	if !match.May(got) {
		t.Errorf("P5.2: Tokens(%q) may not be: %v", s, got)
	}
	if back, e := match.Expand(got); e != api.OK || back != s {
		t.Errorf("P5.2: Tokens(%q) expands to %q, %d", s, back, e)
	}
}

func TestTokensOfFewBytes(t *testing.T) {
	checkTokens(t, "", nil)
	for b := range 256 {
		x := string([]byte{byte(b)})
		checkTokens(t, x, []api.Token{lit(b)})
		checkTokens(t, x+x, []api.Token{lit(b), lit(b)})
		checkTokens(t, x+x+x, []api.Token{lit(b), lit(b), lit(b)})
		checkTokens(t, x+x+x+x, []api.Token{lit(b), run(3, 1)})
	}
	checkTokens(t, "ab", bytesOf("ab"))
	checkTokens(t, "abc", bytesOf("abc"))
	checkTokens(t, "\x00\xff\x00", []api.Token{lit(0), lit(255), lit(0)})
}

func TestTokensTakesCopies(t *testing.T) {
	for _, c := range []struct {
		s    string
		want []api.Token
	}{
		// MinMatch bytes, and one fewer.
		{"abcdabc", append(bytesOf("abcd"), run(3, 4))},
		{"abcdab", bytesOf("abcdab")},
		{"abcdabe", bytesOf("abcdabe")},
		{"abxaby", bytesOf("abxaby")},
		{"abcabcx", append(bytesOf("abc"), run(3, 3), lit('x'))},
		// One that runs into itself.
		{"aaaaaaaa", []api.Token{lit('a'), run(7, 1)}},
		{"abababab", append(bytesOf("ab"), run(6, 2))},
		{"abcabcab", append(bytesOf("abc"), run(5, 3))},
		{"xyzzzzy", append(bytesOf("xyz"), run(3, 1), lit('y'))},
		{"\x00\x00\x00\x00\xff\xff\xff\xff", []api.Token{lit(0), run(3, 1), lit(255), run(3, 1)}},
		// Of equally long ones the nearest.
		{"abc1abc2abc", append(bytesOf("abc1"), run(3, 4), lit('2'), run(3, 4))},
		{"abcdeXabcdeYabcde", append(bytesOf("abcdeX"), run(5, 6), lit('Y'), run(5, 6))},
		// A longer one that lies farther back, and a nearer one that is longer.
		{"abcdXabcYabcd", append(bytesOf("abcdX"), run(3, 5), lit('Y'), run(4, 9))},
		{"abcXbcdYabcd", append(bytesOf("abcXbcdY"), run(3, 8), lit('d'))},
		{"abcXabcdYabcd", append(bytesOf("abcX"), run(3, 4), lit('d'), lit('Y'), run(4, 5))},
		// The longest one at each place, though a byte ahead of it would do
		// better.
		{"abcXbcdeYabcde", append(bytesOf("abcXbcdeY"), run(3, 9), lit('d'), lit('e'))},
		// One that ends with the text, one byte longer ahead.
		{"abcdefabcde", append(bytesOf("abcdef"), run(5, 6))},
	} {
		checkTokens(t, c.s, c.want)
	}
}

func TestTokensOfLongRuns(t *testing.T) {
	if len(wantTokens(strings.Repeat("a", 300))) != 3 {
		t.Fatal("the model is wrong")
	}
	checkTokens(t, strings.Repeat("a", 258), []api.Token{lit('a'), run(257, 1)})
	checkTokens(t, strings.Repeat("a", 259), []api.Token{lit('a'), run(258, 1)})
	checkTokens(t, strings.Repeat("a", 260), []api.Token{lit('a'), run(258, 1), lit('a')})
	checkTokens(t, strings.Repeat("a", 261), []api.Token{lit('a'), run(258, 1), lit('a'), lit('a')})
	checkTokens(t, strings.Repeat("a", 262), []api.Token{lit('a'), run(258, 1), run(3, 1)})
	checkTokens(t, strings.Repeat("ab", 150), []api.Token{lit('a'), lit('b'), run(258, 2), run(40, 2)})
	// From as far back as a text of MaxText bytes goes.
	far := unlike(297)
	checkTokens(t, far+far[:3], append(bytesOf(far), run(3, 297)))
	checkTokens(t, unlike(150)+unlike(150), append(bytesOf(unlike(150)), run(150, 150)))
}

func TestTokensWhereNothingComesAgain(t *testing.T) {
	for _, n := range []int{0, 1, 2, 3, 4, 255, 256, 257, 299, 300} {
		checkTokens(t, unlike(n), bytesOf(unlike(n)))
	}
}

func TestTokensRefusesLongTexts(t *testing.T) {
	for _, n := range []int{301, 302, 8192, 8193, 100000} {
		for _, s := range []string{strings.Repeat("a", n), strings.Repeat("\x00", n), strings.Repeat(unlike(300), n/300+1)[:n]} {
			if ts, e := match.Tokens(s); ts != nil || e != api.ErrMatchForm {
				t.Errorf("P5.1: %d bytes: %v, %d", n, ts, e)
			}
		}
	}
	for _, n := range []int{299, 300} {
		checkTokens(t, strings.Repeat("abcd", 75)[:n], append(bytesOf("abcd"), run(258, 4), run(n-262, 4)))
	}
}

// again is a text by chance, of few different bytes, pieces of which come
// again.
func again(r *rand.Rand, n int) string {
	kinds := 1 + r.Intn(6)
	var b []byte
	for len(b) < n {
		if len(b) == 0 || r.Intn(3) > 0 {
			b = append(b, byte(51*r.Intn(kinds)))
			continue
		}
		dist := 1 + r.Intn(len(b))
		for range r.Intn(40) {
			b = append(b, b[len(b)-dist])
		}
	}
	return string(b[:n])
}

func TestTokensByChance(t *testing.T) {
	r := rand.New(rand.NewSource(5))
	for n := range api.MaxText + 1 {
		for range 3 {
			s := again(r, n)
			checkTokens(t, s, wantTokens(s))
		}
	}
	// Each text of at most 9 bytes of two kinds.
	for n := range 10 {
		for k := range 1 << n {
			b := make([]byte, n)
			for i := range b {
				b[i] = byte(k >> i & 1)
			}
			checkTokens(t, string(b), wantTokens(string(b)))
		}
	}
}

func TestTokensSharesNothing(t *testing.T) {
	s := "abcabcabcabdabd"
	one, _ := match.Tokens(s)
	two, _ := match.Tokens(s)
	for i := range one {
		one[i] = lit(1)
	}
	checkTokens(t, s, two)
	checkTokens(t, s, wantTokens(s))
}

func checkMay(t *testing.T, ts []api.Token, want string) {
	t.Helper()
	if !match.May(ts) {
		t.Errorf("P5.2: %v may not be", ts)
	}
	if got, e := match.Expand(ts); got != want || e != api.OK {
		t.Errorf("P5.2: Expand(%v): %q, %d, want %q", ts, got, e, want)
	}
}

func checkRefused(t *testing.T, ts []api.Token) {
	t.Helper()
	if match.May(ts) {
		t.Errorf("P5.2: %d tokens may be, the last one %v", len(ts), ts[len(ts)-1])
	}
	if got, e := match.Expand(ts); got != "" || e != api.ErrMatchForm {
		t.Errorf("P5.2: %d tokens, the last one %v: %d bytes, %d", len(ts), ts[len(ts)-1], len(got), e)
	}
}

func TestNoTokens(t *testing.T) {
	checkMay(t, nil, "")
	checkMay(t, []api.Token{}, "")
	checkMay(t, make([]api.Token, 0, 5), "")
}

func TestExpandBytes(t *testing.T) {
	for b := range 256 {
		checkMay(t, []api.Token{lit(b)}, string([]byte{byte(b)}))
	}
	checkMay(t, []api.Token{{}, {}}, "\x00\x00")
	checkMay(t, bytesOf("any bytes\x00\xff"), "any bytes\x00\xff")
}

func TestExpandCopies(t *testing.T) {
	for _, c := range []struct {
		ts   []api.Token
		want string
	}{
		{[]api.Token{lit('a'), run(3, 1)}, "aaaa"},
		{[]api.Token{lit(0), run(3, 1)}, "\x00\x00\x00\x00"},
		{[]api.Token{lit('a'), run(258, 1)}, strings.Repeat("a", 259)},
		{append(bytesOf("abc"), run(3, 3)), "abcabc"},
		{append(bytesOf("abc"), run(4, 3)), "abcabca"},
		{append(bytesOf("abc"), run(8, 2)), "abcbcbcbcbc"},
		{append(bytesOf("abcdef"), run(3, 6), run(3, 5), lit('x'), run(3, 1)), "abcdefabcefaxxxx"},
		{append(bytesOf("abcdef"), run(4, 6), run(4, 4)), "abcdefabcdabcd"},
	} {
		checkMay(t, c.ts, c.want)
	}
}

// mayFollow is what the chapter asks of one token behind so many bytes.
func mayFollow(x api.Token, ahead int) bool {
	if x.Len == 0 && x.Dist == 0 {
		return 0 <= x.Lit && x.Lit < 256
	}
	far := 1 <= x.Dist && x.Dist <= 32768 && x.Dist <= ahead
	return x.Lit == 0 && far && 3 <= x.Len && x.Len <= 258
}

func TestEachField(t *testing.T) {
	lits := []int{math.MinInt, math.MinInt32, -256, -255, -1, 0, 1, 97, 255, 256, 257, 511, 512, 1 << 32, math.MaxInt32, math.MaxInt}
	lens := []int{math.MinInt, math.MinInt32, -258, -3, -1, 0, 1, 2, 3, 4, 257, 258, 259, 260, 1<<32 + 3, math.MaxInt32, math.MaxInt}
	dists := []int{math.MinInt, math.MinInt32, -32768, -1, 0, 1, 2, 3, 4, 299, 300, 301, 32767, 32768, 32769, 1<<32 + 1, math.MaxInt32, math.MaxInt}
	for _, ahead := range []int{0, 1, 2, 3, 300} {
		head := bytesOf(unlike(ahead))
		for _, l := range lits {
			for _, n := range lens {
				for _, d := range dists {
					x := api.Token{Lit: l, Len: n, Dist: d}
					ts := append(slices.Clone(head), x)
					if mayFollow(x, ahead) {
						checkMay(t, ts, wantText(ts))
						continue
					}
					checkRefused(t, ts)
					// A wrong one stays so whatever stands behind it.
					checkRefused(t, append(ts, lit('a'), run(3, 1)))
				}
			}
		}
	}
}

func TestDistancesReachTheBeginningAlone(t *testing.T) {
	for _, ahead := range []int{1, 2, 3, 10, 257, 258, 259, 1000, 8188, 8189} {
		s := strings.Repeat(unlike(512), 16)[:ahead]
		ts := append(bytesOf(s), run(3, ahead))
		checkMay(t, ts, wantText(ts))
		checkRefused(t, append(bytesOf(s), run(3, ahead+1)))
		checkRefused(t, append(bytesOf(s), run(3, 0)))
	}
	// What copies come to stands ahead as well.
	checkMay(t, []api.Token{lit('a'), run(258, 1), run(3, 259)}, strings.Repeat("a", 262))
	checkRefused(t, []api.Token{lit('a'), run(258, 1), run(3, 260)})
	checkRefused(t, []api.Token{run(3, 1)})
	checkRefused(t, []api.Token{run(3, 1), lit('a')})
}

func TestMaxBytesInAll(t *testing.T) {
	bytes := bytesOf(strings.Repeat("x", 8192))
	checkMay(t, bytes, strings.Repeat("x", 8192))
	checkRefused(t, append(bytes, lit('x')))
	checkRefused(t, append(bytes, run(3, 1)))
	checkRefused(t, append(bytesOf(strings.Repeat("x", 8190)), run(3, 1)))
	copies := append([]api.Token{lit('x')}, slices.Repeat([]api.Token{run(258, 1)}, 31)...)
	for n := 3; n <= 258; n++ {
		ts := append(slices.Clone(copies), run(n, 7999))
		if n <= 193 {
			checkMay(t, ts, strings.Repeat("x", 7999+n))
		} else {
			checkRefused(t, ts)
		}
	}
	checkRefused(t, append(slices.Clone(copies), run(193, 7999), lit(0)))
	checkRefused(t, make([]api.Token, 1<<20))
}

func TestExpandByChance(t *testing.T) {
	r := rand.New(rand.NewSource(6))
	for range 2000 {
		var ts []api.Token
		ahead := 0
		for range r.Intn(60) {
			if ahead == 0 || r.Intn(2) == 0 {
				ts = append(ts, lit(r.Intn(256)))
				ahead++
				continue
			}
			x := run(3+r.Intn(20), 1+r.Intn(ahead))
			ts = append(ts, x)
			ahead += x.Len
		}
		checkMay(t, ts, wantText(ts))
		if len(ts) == 0 {
			continue
		}
		k := r.Intn(len(ts))
		ts[k].Lit += 256
		checkRefused(t, ts[:k+1])
		checkRefused(t, ts)
	}
}

func TestTokensHandedInStay(t *testing.T) {
	for _, row := range [][]api.Token{
		append(bytesOf("abcd"), run(5, 3), run(3, 1)),
		append(bytesOf("abcd"), run(5, 5), run(3, 1)),
		append(bytesOf("abcd"), run(2, 1)),
	} {
		room := append(slices.Clone(row), api.Token{Lit: 7, Len: 8, Dist: 9}, lit(300))
		was := slices.Clone(room)
		given := room[:len(row)]
		match.May(given)
		match.Expand(given)
		if !slices.Equal(room, was) {
			t.Errorf("R4: %v became %v", was, room)
		}
	}
	// An answer stays when what was handed in is changed later.
	ts := append(bytesOf("abc"), run(3, 3))
	s, _ := match.Expand(ts)
	clear(ts)
	if s != "abcabc" {
		t.Errorf("R4: %q", s)
	}
}

func TestFromSeveralGoroutines(t *testing.T) {
	var all sync.WaitGroup
	for k := range 8 {
		all.Add(1)
		go func() {
			defer all.Done()
			r := rand.New(rand.NewSource(int64(k)))
			for range 20 {
				s := again(r, r.Intn(301))
				ts, e := match.Tokens(s)
				back, f := match.Expand(ts)
				if e != api.OK || f != api.OK || back != s || !match.May(ts) {
					t.Errorf("R5: %q: %q, %d, %d", s, back, e, f)
				}
			}
		}()
	}
	all.Wait()
}
