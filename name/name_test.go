package name_test

import (
	"strings"
	"sync"
	"testing"

	"portage/api"
	"portage/name"
)

// letters is all bytes that may stand in a name, written out.
const letters = "abcdefghijklmnopqrstuvwxyz0123456789.-_"

func text(b int) string {
	return string([]byte{byte(b)})
}

func isLetter(b int) bool {
	return strings.Contains(letters, text(b))
}

// check asks for one answer, twice.
func check(t *testing.T, s string, want bool) {
	t.Helper()
	for range 2 {
		if got := name.May(s); got != want {
			t.Errorf("P10.1: May(%q), %d bytes: %v, want %v", s, len(s), got, want)
		}
	}
}

func TestTheLetters(t *testing.T) {
	many := 0
	for b := range 256 {
		if isLetter(b) {
			many++
		}
	}
	if many != 26+10+3 {
		t.Fatalf("the test is wrong: %d letters", many)
	}
}

func TestOrdinaryNames(t *testing.T) {
	for _, s := range []string{"a", "z9", "readme", "go.mod", "a.b-c_d", "main.go", "0", "2026", "-", "--", "_", "__", "-rf", "_a", "a_", "con", "nul"} {
		check(t, s, true)
	}
}

func TestWhatIsNoName(t *testing.T) {
	for _, s := range []string{
		"A", "README", "readMe", "Z", " ", "a b", " a", "a ", "a\t", "a\n", "\r\n",
		"a/b", "/", "/a", "a/", "../a", "./a", "a\\b", "a:", "a*", "a?", "a,b", "a+b", "a~", "a@b", "`", "{", "[",
		"\x00", "a\x00", "\x7f", "\x80", "\xff", "a\xc3", "\xef\xbb\xbfa",
	} {
		check(t, s, false)
	}
}

func TestTheEmptyText(t *testing.T) {
	check(t, "", false)
	var zero string
	check(t, zero, false)
	full := "abc"
	check(t, full[3:], false)
}

// Of one byte, the dot alone is a letter and no name.
func TestEachByteByItself(t *testing.T) {
	for b := range 256 {
		check(t, text(b), isLetter(b) && b != '.')
	}
}

func TestEachPairOfBytes(t *testing.T) {
	for a := range 256 {
		for b := range 256 {
			s := text(a) + text(b)
			check(t, s, isLetter(a) && isLetter(b) && s != "..")
		}
	}
}

// Each byte at each place of a text of each length that is a name otherwise,
// the first, the middle and the last one among them.
func TestEachByteAtEachPlace(t *testing.T) {
	for n := 2; n <= api.MaxName; n++ {
		whole := "q-7.w_0z"[:n]
		check(t, whole, true)
		for at := range n {
			for b := range 256 {
				check(t, whole[:at]+text(b)+whole[at+1:], isLetter(b))
			}
		}
	}
}

func TestEachLetterAtEachLength(t *testing.T) {
	for b := range len(letters) {
		for n := range 2*api.MaxName + 2 {
			s := strings.Repeat(letters[b:b+1], n)
			check(t, s, n >= 1 && n <= 8 && s != "." && s != "..")
		}
	}
}

func TestLongTexts(t *testing.T) {
	check(t, "12345678", true)
	check(t, "a.b-c_d9", true)
	check(t, "123456789", false)
	check(t, "a.b-c_d90", false)
	// Longer ones are not cut to what fits, nor are their lengths wrapped round.
	for _, n := range []int{9, 10, 16, 255, 256, 257, 256 + 8, 300, 8192, 65536, 65536 + 1, 65536 + 8, 1 << 20} {
		check(t, strings.Repeat("a", n), false)
		check(t, strings.Repeat(".", n), false)
		check(t, "abcdefgh"+strings.Repeat("\x00", n-8), false)
	}
}

// Lengths are counted in bytes, and letters of several bytes are none.
func TestLettersOfSeveralBytes(t *testing.T) {
	for _, s := range []string{
		"ä", "é", "ß", "aä", "äa", "€", "日本", "𝒶", "ааа", "ａ", "１", "٣", "‐", "…",
		strings.Repeat("ä", 4), strings.Repeat("ä", 8), strings.Repeat("𝒶", 8),
		// Runes whose lowest byte is a letter's.
		"\u0161", "\u0130", "\u012e", "\u022d", "\u015f",
		// No runes at all: an a of two bytes, half of a pair, and what stands for such.
		"\xc1\xa1", "\xed\xa0\x80", "\uFFFD",
	} {
		check(t, s, false)
	}
}

func TestDots(t *testing.T) {
	check(t, ".", false)
	check(t, "..", false)
	for n := 3; n <= api.MaxName; n++ {
		check(t, strings.Repeat(".", n), true)
	}
	check(t, strings.Repeat(".", api.MaxName+1), false)
}

// Texts that begin with dots, end with them, or have them on both sides.
func TestDotsBesideOthers(t *testing.T) {
	for _, dots := range []string{".", "..", "..."} {
		for b := range 256 {
			s := text(b)
			is := isLetter(b)
			// Only the one dot, and only by another dot, comes to one of the two.
			whole := is && dots+s != ".."
			check(t, dots+s, whole)
			check(t, s+dots, whole)
			check(t, dots+s+dots, is)
			check(t, s+dots+s, is)
		}
		for n := 1; n <= api.MaxName; n++ {
			s := strings.Repeat("x", n)
			check(t, dots+s, len(dots)+n <= 8)
			check(t, s+dots, len(dots)+n <= 8)
			check(t, dots+s+dots, 2*len(dots)+n <= 8)
		}
	}
	for _, s := range []string{".\x00", "..\x00", "\x00.", "\x00..", ". ", ".. ", " .", " ..", "./", "../", "/.", "/..", ".\n", "..\n"} {
		check(t, s, false)
	}
}

// A piece of a longer text is asked by itself, not by what stands around it.
func TestPieces(t *testing.T) {
	long := "/a..b/"
	check(t, long[1:5], true)
	check(t, long[2:4], false)
	check(t, long[2:3], false)
	check(t, long[0:5], false)
	check(t, long[1:6], false)
}

func TestFromSeveralGoroutines(t *testing.T) {
	var all sync.WaitGroup
	for range 8 {
		all.Go(func() {
			for b := range 256 {
				check(t, "x"+text(b), isLetter(b))
				check(t, "..", false)
			}
		})
	}
	all.Wait()
}
