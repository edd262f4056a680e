package inflate_test

import (
	"slices"
	"strings"
	"testing"
)

// abBook: a 00, b 01, the end 10, a copy of three 11.
func abBook(dists ...int) book {
	return book{sparse(258, map[int]int{'a': 2, 'b': 2, 256: 2, 257: 2}), dists}
}

// told begins a block of these lengths, and goes on with bits.
func told(b book, row string) string {
	return (&pen{}).lengths(1, b).row(row).text()
}

func TestDistanceCodes(t *testing.T) {
	for _, c := range []struct {
		name  string
		dists []int
		row   string
		want  string
	}{
		{"none, and no copy", []int{0}, "00 01 10", "ab"},
		{"none of thirty", make([]int, 30), "00 01 10", "ab"},
		{"just one of one bit", []int{1}, "00 11 0 10", "aaaa"},
		{"just one, not used", []int{1}, "00 10", "a"},
		{"just one, behind others", []int{0, 0, 1}, "00 01 00 11 0 10", "abaaba"},
		{"just one, the last one", append(make([]int, 29), 1), "00 10", "a"},
		{"two", []int{1, 1}, "00 01 11 1 11 0 10", "ababaaaa"},
		{"two, apart", []int{1, 0, 1}, "00 01 01 11 1 11 0 10", "abbabbbbb"},
		{"three", []int{2, 2, 1}, "00 01 01 11 0 11 11 11 10 10", "abbabbbbbbbb"},
	} {
		x := told(abBook(c.dists...), c.row)
		takes(t, c.name, x, 100, c.want, len(x))
	}
}

func TestDistanceCodesThatMayNotBe(t *testing.T) {
	for name, dists := range map[string][]int{
		"just one, of two bits":     {2},
		"just one, of fifteen bits": {0, 15},
		"two that leave room":       {1, 2},
		"two of two bits":           {2, 2},
		"three that leave room":     {2, 2, 2},
		"three of one bit":          {1, 1, 1},
		"one bit too many":          {1, 1, 15},
		"thirty of one bit":         slices.Repeat([]int{1}, 30),
		"thirty of five bits":       slices.Repeat([]int{5}, 30),
	} {
		faulty(t, name, told(abBook(dists...), "00 10 0000 0000 0000 0000"), 0)
	}
}

func TestBitsThatAreNoCode(t *testing.T) {
	for _, behind := range []string{"", "0", "1", strings.Repeat("0", 40), strings.Repeat("1", 40), strings.Repeat("10", 20)} {
		faulty(t, "a copy, no distance code", told(abBook(0), "00 11"+behind), 1)
		faulty(t, "a copy, no distance code of thirty", told(abBook(make([]int, 30)...), "00 01 11"+behind), 2)
		faulty(t, "a copy, the other bit", told(abBook(1), "00 11 1"+behind), 1)
		faulty(t, "a copy, the other bit of a later one", told(abBook(0, 0, 1), "00 01 00 11 0 11 1"+behind), 6)
	}
	faulty(t, "a copy that is too far by the only code", told(abBook(0, 1), "00 11 0 10"), 1)
}

// longest is lengths up to MaxBits: of the distances too.
func longest() book {
	bytes, dists := make([]int, 286), make([]int, 30)
	for i := range 15 {
		bytes['a'+i] = i + 1
		dists[i] = i + 1
	}
	// a has one bit, b two, and so on; the end shares the longest ones.
	bytes[256] = 15
	bytes['a'+14], bytes[257] = 0, 15
	dists[15] = 15
	return book{bytes, dists}
}

func TestTheLongestCodes(t *testing.T) {
	b := longest()
	s := strings.Repeat("abcdefghijklmn", 20)
	ts := with(s, run(3, 1), run(3, 3), run(3, 100), run(3, 193), run(3, 256))
	if len(codes(b.bytes)[256]) != 15 || len(codes(b.dists)[15]) != 15 {
		t.Fatal("the test is wrong")
	}
	x := (&pen{}).dynamic(1, b, ts...).text()
	want := s + "nnn" + "nnn"
	for _, dist := range []int{100, 193, 256} {
		want += want[len(want)-dist:][:3]
	}
	takes(t, "codes of up to 15 bits", x, 400, want, len(x))
}

func TestTooManyLengths(t *testing.T) {
	for _, more := range []int{30, 31} {
		faulty(t, "lengths", (&pen{}).head(1, 2).put(more, 5).put(0, 5).put(15, 4).put(0, 400).text(), 0)
		faulty(t, "distances", (&pen{}).head(1, 2).put(0, 5).put(more, 5).put(15, 4).put(0, 400).text(), 0)
		wide := book{sparse(257+more, map[int]int{'a': 1, 256: 1}), []int{0}}
		faulty(t, "lengths that would do", (&pen{}).dynamic(1, wide, lits("aa")...).text(), 0)
		far := book{sparse(257, map[int]int{'a': 1, 256: 1}), make([]int, 1+more)}
		faulty(t, "distances that would do", (&pen{}).dynamic(1, far, lits("aa")...).text(), 0)
	}
	b := book{sparse(286, map[int]int{'a': 1, 256: 1}), make([]int, 30)}
	x := (&pen{}).dynamic(1, b, lits("aa")...).text()
	takes(t, "as many as may be", x, 2, "aa", len(x))
	b = book{sparse(257, map[int]int{'a': 1, 256: 1}), []int{0}}
	x = (&pen{}).dynamic(1, b, lits("aa")...).text()
	takes(t, "as few as may be", x, 2, "aa", len(x))
}

func TestByteCodesThatMayNotBe(t *testing.T) {
	for name, bytes := range map[string]map[int]int{
		"none":                     {},
		"just the end, of one bit": {256: 1},
		"just the end, of more":    {256: 15},
		"room is left":             {'a': 1, 256: 2},
		"the least room is left":   {'a': 1, 'b': 2, 'c': 3, 'd': 4, 'e': 5, 'f': 6, 'g': 7, 'h': 8, 'i': 9, 'j': 10, 'k': 11, 'l': 12, 'm': 13, 'n': 14, 256: 15},
		"no room":                  {'a': 1, 'b': 1, 256: 1},
		"the least is too much":    {'a': 1, 'b': 15, 256: 1},
		"no code for the end":      {'a': 1, 'b': 1},
		"no end, but lengths":      {'a': 1, 257: 1},
		"no end, one of one bit":   {'a': 1},
	} {
		for _, dists := range [][]int{{0}, {1}, {1, 1}} {
			faulty(t, name, told(book{sparse(258, bytes), dists}, "0000 0000 0000 0000 1111 1111"), 0)
		}
	}
	// What is wrong stands behind another block's bytes.
	p := (&pen{}).fixed(0, lits("xyz")...).lengths(1, book{sparse(257, map[int]int{'a': 1, 'b': 1}), []int{0}})
	faulty(t, "no end, in a second block", p.put(0, 40).text(), 3)
}

func TestSmallCodesThatMayNotBe(t *testing.T) {
	for name, told := range map[string]map[int]int{
		"none":                 {},
		"just one of one bit":  {0: 1},
		"just one of more":     {8: 3},
		"room is left":         {0: 1, 1: 2},
		"the least room left":  {0: 1, 1: 2, 2: 3, 3: 4, 4: 5, 5: 6, 6: 7},
		"no room":              {0: 1, 1: 1, 2: 1},
		"the least too much":   {0: 1, 1: 1, 2: 7},
		"all of seven bits":    {0: 7, 1: 7, 2: 7, 3: 7, 4: 7, 5: 7, 6: 7, 7: 7, 8: 7, 9: 7, 10: 7, 11: 7, 12: 7, 13: 7, 14: 7, 15: 7, 16: 7, 17: 7, 18: 7},
		"only what repeats, 1": {18: 1},
	} {
		faulty(t, name, (&pen{}).open(1, 257, 1, sparse(19, told)).put(0, 600).text(), 0)
	}
}

// Where the codes leave room, all else may be right.
func TestSmallCodesThatLeaveRoom(t *testing.T) {
	for _, c := range []struct {
		small []int
		right bool
	}{
		{sparse(19, map[int]int{0: 2, 1: 2, 18: 1}), true},
		{sparse(19, map[int]int{0: 2, 1: 2, 18: 2}), false},
		{sparse(19, map[int]int{0: 2, 1: 3, 18: 1}), false},
		{sparse(19, map[int]int{0: 7, 1: 7, 18: 7}), false},
	} {
		p := (&pen{}).open(1, 257, 1, c.small)
		for _, x := range []item{more(97), same(1), more(138), more(20), same(1), same(0)} {
			p.symbol(c.small, x.symbol).put(x.extra, x.bits)
		}
		s := p.row("0 0 1").text()
		if c.right {
			takes(t, "no room is left", s, 2, "aa", len(s))
		} else {
			faulty(t, "room is left, all else is right", s, 0)
		}
	}
}

// Each symbol's length is told where the chapter says; those behind the number
// of them are 0.
func TestTheOrderOfSmallCodes(t *testing.T) {
	bytes := sparse(257, map[int]int{'a': 1, 256: 1})
	for n := 2; n < 16; n++ {
		// 0 and 1 are needed; the third one takes the room that is left.
		small := sparse(19, map[int]int{0: 1, 1: 2, n: 2})
		p := (&pen{}).open(1, 257, 1, small)
		for _, k := range append(slices.Clone(bytes), 0) {
			p.symbol(small, k)
		}
		p.body(book{bytes, []int{0}}, lits("aaa")...)
		takes(t, "a third length", p.text(), 3, "aaa", len(p.text()))
	}
	// Four of them, told by 0, 16, 17 and 18 alone, make no code at all.
	small := sparse(19, map[int]int{0: 2, 16: 2, 17: 2, 18: 2})
	p := (&pen{}).open(1, 257, 1, small)
	for range 258 {
		p.symbol(small, 0)
	}
	faulty(t, "four of them, all lengths 0", p.put(0, 40).text(), 0)
}

// item is a symbol among the lengths, and its extra bits.
type item struct {
	symbol, extra, bits int
}

func last(times int) item { return item{16, times - 3, 2} }
func none(times int) item { return item{17, times - 3, 3} }
func more(times int) item { return item{18, times - 11, 7} }
func same(n int) item     { return item{symbol: n} }

// runSmall has codes for some lengths and for all repeats.
func runSmall() []int {
	return sparse(19, map[int]int{0: 3, 1: 3, 2: 3, 3: 3, 8: 3, 16: 3, 17: 3, 18: 3})
}

// items begins a dynamic block whose lengths are told by these.
func items(bytes int, dists int, all ...item) *pen {
	p := (&pen{}).open(1, bytes, dists, runSmall())
	for _, x := range all {
		p.symbol(runSmall(), x.symbol).put(x.extra, x.bits)
	}
	return p
}

func TestRepeats(t *testing.T) {
	// The byte a is 97: so many symbols stand ahead of it, and 158 between it
	// and the end.
	for _, c := range []struct {
		name  string
		bytes int
		dists int
		all   []item
		row   string
		want  string
	}{
		{"18 and 17", 257, 1, []item{more(97), same(1), more(138), more(17), none(3), same(1), same(0)}, "0 0 1", "aa"},
		{"18, its least and its most", 257, 1, []item{more(11), more(86), same(1), more(138), more(20), same(1), same(0)}, "0 1", "a"},
		{"17, its least and its most", 257, 1, []item{more(94), none(3), same(1), more(138), none(10), none(10), same(1), same(0)}, "0 1", "a"},
		{"16, its least", 260, 1, []item{more(138), more(118), same(2), last(3), same(0)}, "00", ""},
		{"16, its most", 257, 1, []item{more(97), same(3), last(6), more(138), more(14), same(3), same(0)}, "000 110 111", "ag"},
		{"16, twice", 257, 1, []item{more(97), same(3), last(3), last(3), more(138), more(14), same(3), same(0)}, "001 101 111", "bf"},
		{"16, of 0", 257, 1, []item{more(97), same(1), more(138), none(10), same(0), last(6), last(3), same(1), same(0)}, "0 0 0 1", "aaa"},
		{"16, behind 17", 257, 1, []item{more(97), same(1), more(138), none(10), none(7), last(3), same(1), same(0)}, "0 1", "a"},
		{"16, behind 18", 257, 1, []item{more(97), same(1), more(138), more(17), last(3), same(1), same(0)}, "0 1", "a"},
		{"17, from the first part into the second", 258, 2, []item{more(97), same(1), more(138), more(20), same(1), none(3)}, "0 0 1", "aa"},
		{"18, from the first part into the second", 270, 30, []item{more(97), same(1), more(138), more(20), same(1), more(43)}, "0 0 1", "aa"},
	} {
		x := items(c.bytes, c.dists, c.all...).row(c.row).text()
		takes(t, c.name, x, len(c.want), c.want, len(x))
	}
}

// A repeat of 16 goes on into the distances, and begins with them too: the
// last length is one of the first part.
func TestARepeatAcrossBothParts(t *testing.T) {
	// Two bits each: 255, 256, 257, 258 of bytes; four distances.
	x := items(259, 4, more(138), more(117), same(2), last(6), same(2)).row("01").text()
	takes(t, "16 across", x, 0, "", len(x))
	x = items(259, 4, more(138), more(117), same(2), last(3), last(4)).row("00 10 11 01").text()
	faulty(t, "16 across, too far", x, 1)
	x = items(259, 4, more(138), more(117), same(2), last(3), last(4)).row("00 10 00 01").text()
	takes(t, "16 across, a copy", x, 9, "\xff\xff\xff\xff", len(x))
}

func TestRepeatsThatMayNotBe(t *testing.T) {
	for times := 3; times <= 6; times++ {
		faulty(t, "16 ahead of all", items(257, 1, last(times)).put(0, 900).text(), 0)
		behind := []item{last(times), more(97 - times), same(1), more(138), more(20), same(1), same(0)}
		faulty(t, "16 ahead of all, the others right", items(257, 1, behind...).row("0 1").text(), 0)
	}
	// All are there but for two distances, and right but for the repeat that
	// ends them.
	ahead := []item{more(97), same(1), more(138), more(20), same(1)}
	for name, x := range map[string]item{
		"16, one beyond": last(3),
		"16, far beyond": last(6),
		"17, one beyond": none(3),
		"17, far beyond": none(10),
		"18, beyond":     more(11),
		"18, far beyond": more(138),
	} {
		faulty(t, name, items(257, 2, append(slices.Clone(ahead), x)...).row("0 0 1").put(0, 60).text(), 0)
	}
	good := items(257, 3, append(slices.Clone(ahead), none(3))...).row("0 0 1").text()
	takes(t, "17, none beyond", good, 2, "aa", len(good))
	good = items(257, 11, append(slices.Clone(ahead), more(11))...).row("0 0 1").text()
	takes(t, "18, none beyond", good, 2, "aa", len(good))
	good = items(257, 4, append(slices.Clone(ahead), same(0), last(3))...).row("0 0 1").text()
	takes(t, "16, none beyond", good, 2, "aa", len(good))
	faulty(t, "very many beyond", items(257, 1, more(138), more(138)).put(0, 900).text(), 0)
}

func TestDynamicBlocksThatAreCutOff(t *testing.T) {
	x := (&pen{}).dynamic(1, plainBook(), lits("abcabc")...)
	whole := x.text()
	head := (&pen{}).lengths(1, plainBook()).bits
	for k := range len(whole) {
		ahead := 0
		if 8*k > head {
			ahead = min(6, (8*k-head)/3)
		}
		faulty(t, "dynamic, cut off", whole[:k], ahead)
	}
	takes(t, "dynamic, whole", whole, 6, "abcabc", len(whole))
	// Within a byte, ahead of the first number.
	faulty(t, "dynamic, its kind alone", (&pen{}).fixed(0, lits("ab")...).fixed(0).head(1, 2).text(), 2)
}
