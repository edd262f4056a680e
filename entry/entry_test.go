package entry_test

import (
	"bytes"
	"compress/flate"
	"hash/crc32"
	"slices"
	"strconv"
	"strings"
	"testing"

	"portage/api"
	"portage/deflate"
	"portage/entry"
	"portage/vector"
)

// full is MaxCount, most MaxText, sums the greatest sum, written out.
const (
	full = 1048576
	most = 300
	sums = 4294967295
)

func TestNumbers(t *testing.T) {
	if full != api.MaxCount || most != api.MaxText || api.MaxName != 8 || api.MaxNodes != 4 || api.MethodStored != 0 || api.MethodDeflated != 8 || api.ErrEntryForm != 1500 || api.ErrEntryText != 1501 {
		t.Fatal("the test is wrong")
	}
}

// row is numbers by chance, that are always the same.
func row(seed uint64) func(n int) int {
	return func(n int) int {
		seed = seed*6364136223846793005 + 1442695040888963407
		return int(seed>>31) % n
	}
}

// noise is n bytes that no stream makes shorter.
func noise(n int) string {
	next := row(uint64(n) + 1)
	b := make([]byte, n)
	for i := range b {
		b[i] = byte(next(256))
	}
	return string(b)
}

// file is s by a method, and these bytes of it.
func file(s string, method int, packed string) api.Entry {
	return api.Entry{
		Name: "m", Vec: []int{1, 2, 3, 4}, Stamp: 5, Node: 1,
		Method: method, Packed: packed, Size: len(s), Crc: int(crc32.ChecksumIEEE([]byte(s))),
	}
}

// stored is s as it stands.
func stored(s string) api.Entry {
	return file(s, 0, s)
}

// packed is s as layer 9 packs it.
func packed(s string) api.Entry {
	method, bytes, err := deflate.Pack(s)
	if err != api.OK {
		panic("the test is wrong")
	}
	return file(s, method, bytes)
}

// flated is s as Go's own library packs it, of several blocks or one.
func flated(level int, pieces ...string) api.Entry {
	var b bytes.Buffer
	w, _ := flate.NewWriter(&b, level)
	for _, piece := range pieces {
		w.Write([]byte(piece))
		w.Flush()
	}
	w.Close()
	return file(strings.Join(pieces, ""), 8, b.String())
}

// block is a stream of one stored block.
func block(s string) string {
	return string([]byte{1, byte(len(s)), byte(len(s) >> 8), ^byte(len(s)), ^byte(len(s) >> 8)}) + s
}

// gone is what is left of a file.
func gone() api.Entry {
	return api.Entry{Name: "m", Gone: true, Vec: []int{9, 0, 0, 1}, Stamp: 2, Node: 2}
}

// with is e with something turned.
func with(e api.Entry, turn func(e *api.Entry)) api.Entry {
	e.Vec = slices.Clone(e.Vec)
	turn(&e)
	return e
}

// same tells whether a and b are alike in each field.
func same(a api.Entry, b api.Entry) bool {
	return a.Name == b.Name && a.Gone == b.Gone && slices.Equal(a.Vec, b.Vec) &&
		a.Stamp == b.Stamp && a.Node == b.Node && a.Method == b.Method &&
		a.Packed == b.Packed && a.Size == b.Size && a.Crc == b.Crc
}

// checkTwo asks for what a and b come to.
func checkTwo(t *testing.T, what string, a api.Entry, b api.Entry, want api.Entry) {
	t.Helper()
	got, err := entry.Merge(a, b)
	if !same(got, want) || err != api.OK {
		t.Errorf("P15.2: %s: Merge(%v, %v): %v, %d, want %v", what, a, b, got, err, want)
	}
	if !entry.May(got) {
		t.Errorf("P15.2: %s: Merge(%v, %v): %v may not be", what, a, b, got)
	}
}

// checkText asks whether e may be, and its text is s.
func checkText(t *testing.T, what string, e api.Entry, s string) {
	t.Helper()
	for range 2 {
		if !entry.May(e) {
			t.Errorf("P15.1: %s: May(%v): false", what, e)
		}
		if got, err := entry.Text(e); got != s || err != api.OK {
			t.Errorf("P15.1: %s: Text(%v): %q, %d, want %q", what, e, got, err, s)
		}
	}
	checkTwo(t, what, e, e, e)
}

// checkGone asks whether e may be, and is gone.
func checkGone(t *testing.T, what string, e api.Entry) {
	t.Helper()
	for range 2 {
		if !entry.May(e) {
			t.Errorf("P15.1: %s: May(%v): false", what, e)
		}
		if got, err := entry.Text(e); got != "" || err != api.ErrEntryText {
			t.Errorf("P15.1: %s: Text(%v): %q, %d, want ErrEntryText", what, e, got, err)
		}
	}
	checkTwo(t, what, e, e, e)
}

// checkApart asks whether a and b are refused.
func checkApart(t *testing.T, what string, a api.Entry, b api.Entry) {
	t.Helper()
	got, err := entry.Merge(a, b)
	if err != api.ErrEntryForm {
		t.Errorf("P15.2: %s: Merge(%v, %v): %d, want ErrEntryForm", what, a, b, err)
	}
	if !same(got, api.Entry{}) {
		t.Errorf("R2: %s: Merge(%v, %v): %v beside an error", what, a, b, got)
	}
}

// checkNone asks whether e is refused, whatever it is merged with.
func checkNone(t *testing.T, what string, e api.Entry) {
	t.Helper()
	for range 2 {
		if entry.May(e) {
			t.Errorf("P15.1: %s: May(%v): true", what, e)
		}
		if got, err := entry.Text(e); got != "" || err != api.ErrEntryForm {
			t.Errorf("P15.1: %s: Text(%v): %q, %d, want ErrEntryForm", what, e, got, err)
		}
	}
	low, high := stored("low"), gone()
	low.Stamp, low.Node, high.Stamp, high.Node = 1, 0, full, 3
	for _, other := range []api.Entry{low, high, e, packed("m")} {
		checkApart(t, what, e, other)
		checkApart(t, what, other, e)
		other.Name = e.Name
		checkApart(t, what+", of one name", e, other)
		checkApart(t, what+", of one name", other, e)
	}
}

// texts is texts that are packed in different ways.
func texts() []string {
	return []string{
		"", "a", "ab", "aaaa", "aaaaa", "\x00", "\x00\x00\x00\x00", "\xff\xff\xff\xff", "123456789",
		"portage", strings.Repeat("portage ", 5), strings.Repeat("portage ", 37), strings.Repeat("abcde", 60),
		noise(1), noise(20), noise(299), noise(most), strings.Repeat("x", 299), strings.Repeat("x", most),
		noise(150) + noise(150), strings.Repeat("a", 100) + noise(100) + strings.Repeat("b", 100), "PK\x03\x04", block("abc"),
	}
}

func TestTexts(t *testing.T) {
	methods := map[int]int{}
	for _, s := range texts() {
		what := strconv.Itoa(len(s)) + " bytes"
		e := packed(s)
		methods[e.Method]++
		checkText(t, what+" as layer 9 packs them", e, s)
		checkText(t, what+" stored", stored(s), s)
		// A stream need not be as short as layer 9 makes it.
		stream, _ := deflate.Deflate(s)
		if len(stream) <= most {
			checkText(t, what+" deflated", file(s, 8, stream), s)
		}
		for _, level := range []int{-2, 0, 1, 6, 9} {
			if e := flated(level, s); len(e.Packed) <= most {
				checkText(t, what+" as Go packs them", e, s)
			}
		}
	}
	if methods[0] < 3 || methods[8] < 3 {
		t.Errorf("the test is wrong: %v", methods)
	}
	checkText(t, "several blocks", flated(6, "portage ", "portage ", "", "portage!"), "portage portage portage!")
}

func TestTextsOfEachLength(t *testing.T) {
	for n := range most + 1 {
		for _, s := range []string{noise(n), strings.Repeat("y", n), strings.Repeat("abc,", 75)[:n]} {
			checkText(t, strconv.Itoa(n)+" bytes", packed(s), s)
			checkText(t, strconv.Itoa(n)+" bytes stored", stored(s), s)
		}
	}
	for n := most + 1; n < most+20; n++ {
		checkNone(t, strconv.Itoa(n)+" bytes stored", stored(noise(n)))
		s := strings.Repeat("y", n)
		checkNone(t, strconv.Itoa(n)+" bytes deflated", flated(9, s))
		checkNone(t, strconv.Itoa(n)+" bytes, Size 300", with(flated(9, s), func(e *api.Entry) { e.Size = most }))
	}
}

// How many bytes are packed has a bound of its own, also where they come to a
// text that may be.
func TestHowManyBytesPacked(t *testing.T) {
	for n := 285; n <= most; n++ {
		s := noise(n)
		e := file(s, 8, block(s))
		if n+5 <= most {
			checkText(t, strconv.Itoa(n)+" bytes in a stored block", e, s)
		} else {
			checkNone(t, strconv.Itoa(n)+" bytes in a stored block", e)
		}
	}
	none := "\x00\x00\x00\xff\xff"
	checkText(t, "60 blocks of no bytes", file("", 8, strings.Repeat(none, 59)+block("")), "")
	checkNone(t, "61 blocks of no bytes", file("", 8, strings.Repeat(none, 60)+block("")))
}

func TestTheEmptyText(t *testing.T) {
	checkText(t, "stored", api.Entry{Name: "m", Vec: []int{0, 0, 0, 0}, Stamp: 1}, "")
	checkText(t, "deflated", api.Entry{Name: "m", Vec: []int{0, 0, 0, 0}, Stamp: 1, Method: 8, Packed: "\x03\x00"}, "")
	checkText(t, "deflated, as a stored block", file("", 8, block("")), "")
	checkNone(t, "deflated, without a stream", file("", 8, ""))
	checkNone(t, "stored, with a stream", file("", 0, "\x03\x00"))
	checkNone(t, "deflated, and stored", file("", 8, "\x03\x00\x00"))
}

func TestNames(t *testing.T) {
	for _, e := range []api.Entry{stored("abc"), packed(strings.Repeat("abc", 9)), packed("")} {
		s := strings.Repeat("abc", e.Size/3)
		for _, name := range []string{"a", "z", "0", "9", "-", "_", "...", "a.", "a.b", "12345678"} {
			checkText(t, "called "+name, with(e, func(e *api.Entry) { e.Name = name }), s)
			checkGone(t, "called "+name, with(gone(), func(e *api.Entry) { e.Name = name }))
		}
	}
	for _, e := range []api.Entry{stored("abc"), packed(strings.Repeat("abc", 9)), packed(""), gone()} {
		for _, name := range []string{"", ".", "..", "A", "a/b", "a b", "m\x00", "\xc3\xa4", "123456789", strings.Repeat("m", 70000)} {
			checkNone(t, "a wrong name", with(e, func(e *api.Entry) { e.Name = name }))
		}
	}
}

func TestHeads(t *testing.T) {
	for _, e := range []api.Entry{stored("abc"), packed(strings.Repeat("abc", 9)), packed(""), gone()} {
		check := func(what string, turn func(e *api.Entry)) {
			t.Helper()
			if e.Gone {
				checkGone(t, what, with(e, turn))
			} else {
				checkText(t, what, with(e, turn), strings.Repeat("abc", e.Size/3))
			}
		}
		for node := range 4 {
			check("Node", func(e *api.Entry) { e.Node = node })
			for _, count := range []int{0, 1, 255, 256, 65536, full - 1, full} {
				check("a count", func(e *api.Entry) { e.Vec[node] = count })
			}
			for _, count := range []int{-1, -full, full + 1, 1 << 32, 1<<32 + 1, -1 << 63} {
				checkNone(t, "a count", with(e, func(e *api.Entry) { e.Vec[node] = count }))
			}
		}
		for _, node := range []int{-1, -4, 4, 5, 255, 256, 257, 1 << 32, -1 << 63} {
			checkNone(t, "Node", with(e, func(e *api.Entry) { e.Node = node }))
		}
		for _, stamp := range []int{1, 2, 255, 256, 65536, full - 1, full} {
			check("Stamp", func(e *api.Entry) { e.Stamp = stamp })
		}
		for _, stamp := range []int{0, -1, -full, full + 1, 1 << 32, 1<<32 + 1, -1 << 63} {
			checkNone(t, "Stamp", with(e, func(e *api.Entry) { e.Stamp = stamp }))
		}
		for _, vec := range [][]int{nil, {}, {1}, {1, 2, 3}, {1, 2, 3, 4, 5}, {0, 0, 0, 0, 0}, make([]int, 70000)} {
			checkNone(t, "Vec", with(e, func(e *api.Entry) { e.Vec = vec }))
		}
	}
}

// A Vec, a Stamp and a Node are not held against one another.
func TestGone(t *testing.T) {
	checkGone(t, "gone", gone())
	checkGone(t, "gone, of no counts", api.Entry{Name: "z-9_.a", Gone: true, Vec: []int{0, 0, 0, 0}, Stamp: full, Node: 3})
	checkGone(t, "gone, of all counts", api.Entry{Name: "12345678", Gone: true, Vec: []int{full, full, full, full}, Stamp: 1})
	// The empty text, stored, has nothing that what is gone has not.
	checkGone(t, "gone, of the empty text", with(packed(""), func(e *api.Entry) { e.Gone = true }))
	for what, turn := range map[string]func(e *api.Entry){
		"Method 8":             func(e *api.Entry) { e.Method = 8 },
		"Method 1":             func(e *api.Entry) { e.Method = 1 },
		"Packed":               func(e *api.Entry) { e.Packed = "x" },
		"Size":                 func(e *api.Entry) { e.Size = 1 },
		"Size below 0":         func(e *api.Entry) { e.Size = -1 },
		"Crc":                  func(e *api.Entry) { e.Crc = 1 },
		"Crc beyond four":      func(e *api.Entry) { e.Crc = 1 << 32 },
		"the empty text's":     func(e *api.Entry) { e.Method, e.Packed = 8, "\x03\x00" },
		"a text's sum alone":   func(e *api.Entry) { e.Crc = stored("abc").Crc },
		"a text's bytes alone": func(e *api.Entry) { e.Packed, e.Size = "abc", 3 },
	} {
		checkNone(t, "gone, with "+what, with(gone(), turn))
	}
	for _, e := range []api.Entry{stored("a"), stored("abc"), packed(strings.Repeat("abc", 9)), stored("\x9d\x0a\xd9\x6d")} {
		checkNone(t, "gone, with all of a text", with(e, func(e *api.Entry) { e.Gone = true }))
	}
	// A gone one that may not be is refused as that.
	checkNone(t, "gone, of no Vec", with(gone(), func(e *api.Entry) { e.Vec = nil }))
}

// No count of what is merged falls: asked here of each entry with itself and
// with a head that knows nothing.
func TestVectorsDoNotFall(t *testing.T) {
	for _, e := range []api.Entry{stored("abc"), packed(strings.Repeat("abc", 9)), gone()} {
		for _, stamp := range []int{1, full} {
			none := with(e, func(e *api.Entry) { e.Vec, e.Stamp = []int{0, 0, 0, 0}, stamp })
			for _, two := range [][2]api.Entry{{e, none}, {none, e}, {e, e}} {
				got, _ := entry.Merge(two[0], two[1])
				if order, err := vector.Order(e.Vec, got.Vec); order != api.OrderSame || err != api.OK {
					t.Errorf("T3: %v and %v: %v", two[0], two[1], got)
				}
			}
		}
	}
}
