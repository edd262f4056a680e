package zipget_test

import (
	"slices"
	"strconv"
	"strings"
	"testing"

	"portage/api"
	"portage/crc"
	"portage/deflate"
	"portage/zipget"
	"portage/zipput"
)

// full is MaxCount, most MaxText, sums the greatest sum, written out.
const (
	full = 1048576
	most = 300
	sums = 4294967295
)

func TestNumbers(t *testing.T) {
	if full != api.MaxCount || most != api.MaxText || api.MaxEntries != 6 || api.MaxName != 8 || api.MaxNodes != 4 || api.MaxImage != 4096 || api.Extra != 26 || api.MethodStored != 0 || api.MethodDeflated != 8 {
		t.Fatal("the test is wrong")
	}
}

// text is n bytes, of which none is the one ahead of it.
func text(n int) string {
	b := make([]byte, n)
	for i := range b {
		b[i] = byte(i*7 + i/256)
	}
	return string(b)
}

// stored is a file of these bytes.
func stored(name string, packed string) api.Entry {
	return api.Entry{Name: name, Vec: []int{1, 2, 3, 4}, Stamp: 5, Node: 1, Packed: packed, Size: len(packed), Crc: 0x0a0b0c0d}
}

// deflated is a file of these bytes, that may not be a stream.
func deflated(name string, packed string, size int) api.Entry {
	return api.Entry{Name: name, Vec: []int{0, full, 7, 256}, Stamp: 65537, Node: 3, Method: 8, Packed: packed, Size: size, Crc: 77}
}

// gone is what is left of a file.
func gone(name string) api.Entry {
	return api.Entry{Name: name, Gone: true, Vec: []int{9, 0, 0, 1}, Stamp: 2, Node: 2}
}

// of is a folder of these entries.
func of(es ...api.Entry) api.Folder {
	return api.Folder{Entries: es}
}

// named is a folder of entries of all kinds, called so.
func named(names ...string) api.Folder {
	var f api.Folder
	for i, name := range names {
		f.Entries = append(f.Entries, []api.Entry{stored(name, "text"), gone(name), deflated(name, "packed", 40)}[i%3])
	}
	return f
}

// with is e with something turned.
func with(e api.Entry, turn func(e *api.Entry)) api.Entry {
	e.Vec = slices.Clone(e.Vec)
	turn(&e)
	return e
}

// same tells whether a and b are alike in each field.
func same(a api.Entry, b api.Entry) bool {
	return a.Name == b.Name && a.Gone == b.Gone && slices.Equal(a.Vec, b.Vec) &&
		a.Stamp == b.Stamp && a.Node == b.Node && a.Method == b.Method &&
		a.Packed == b.Packed && a.Size == b.Size && a.Crc == b.Crc
}

// checkText asks whether s is read as f, and written again as it stood.
func checkText(t *testing.T, what string, s string, f api.Folder) {
	t.Helper()
	for range 2 {
		got, err := zipget.Get(s)
		if !slices.EqualFunc(got.Entries, f.Entries, same) || err != api.OK {
			t.Errorf("P14.1: %s: Get(%q): %v, %d, want %v", what, s, got, err, f)
		}
		if again, err := zipput.Put(got); again != s || err != api.OK {
			t.Errorf("P14.2: %s: read and written: %q, %d, want %q", what, again, err, s)
		}
	}
}

// checkRead asks whether what Put tells of f is read as f.
func checkRead(t *testing.T, what string, f api.Folder) {
	t.Helper()
	s, err := zipput.Put(f)
	if err != api.OK {
		t.Fatalf("the test is wrong: %s: %d", what, err)
	}
	checkText(t, what, s, f)
}

func checkNone(t *testing.T, what string, s string) {
	t.Helper()
	for range 2 {
		got, err := zipget.Get(s)
		if err != api.ErrZipGetForm {
			t.Errorf("P14.1: %s: Get(%q): %d, want ErrZipGetForm", what, s[:min(len(s), 5000)], err)
		}
		if len(got.Entries) != 0 {
			t.Errorf("R2: %s: Get(%q): %v beside an error", what, s[:min(len(s), 5000)], got)
		}
	}
}

// around asks for e by itself, and ahead of, between and behind others.
func around(t *testing.T, what string, e api.Entry) {
	t.Helper()
	low, high := stored("-", "low"), deflated("zzzzzzzz", "high", 9)
	checkRead(t, what+", alone", of(e))
	checkRead(t, what+", first", of(e, high))
	checkRead(t, what+", last", of(low, e))
	checkRead(t, what+", between", of(low, e, high))
}

const endOfNone = "PK\x05\x06" + "\x00\x00" + "\x00\x00" + "\x00\x00" + "\x00\x00" + "\x00\x00\x00\x00" + "\x00\x00\x00\x00" + "\x00\x00"

func TestBytesWrittenOut(t *testing.T) {
	checkText(t, "no entry", endOfNone, api.Folder{})
	head := "pP\x16\x00" + "\x01\x00\x00\x00" + "\x00\x02\x00\x00" + "\x00\x00\x10\x00" + "\x04\x03\x02\x00" + "\x05\x06\x00\x00" + "\x03" + "\x00"
	common := "\x14\x00" + "\x00\x00" + "\x08\x00" + "\x00\x00" + "\x00\x00" + "\x82\x89\xd1\xf7" + "\x04\x00\x00\x00" + "\x01\x01\x00\x00" + "\x05\x00" + "\x1a\x00"
	s := "PK\x03\x04" + common + "a.txt" + head + "\x4b\x04\x01\x00" +
		"PK\x01\x02" + "\x14\x00" + common + "\x00\x00" + "\x00\x00" + "\x00\x00" + "\x00\x00\x00\x00" + "\x00\x00\x00\x00" + "a.txt" + head +
		"PK\x05\x06" + "\x00\x00" + "\x00\x00" + "\x01\x00" + "\x01\x00" + "\x4d\x00\x00\x00" + "\x41\x00\x00\x00" + "\x00\x00"
	checkText(t, "a file", s, of(api.Entry{
		Name: "a.txt", Vec: []int{1, 0x200, full, 0x20304}, Stamp: 0x605, Node: 3,
		Method: 8, Packed: "\x4b\x04\x01\x00", Size: 0x101, Crc: 0xf7d18982,
	}))
	head = "pP\x16\x00" + "\x00\x00\x00\x00" + "\x00\x00\x00\x00" + "\x00\x00\x00\x00" + "\x07\x00\x00\x00" + "\x01\x00\x00\x00" + "\x00" + "\x01"
	common = "\x14\x00" + strings.Repeat("\x00", 20) + "\x01\x00" + "\x1a\x00"
	s = "PK\x03\x04" + common + "z" + head +
		"PK\x01\x02" + "\x14\x00" + common + strings.Repeat("\x00", 14) + "z" + head +
		"PK\x05\x06" + "\x00\x00" + "\x00\x00" + "\x01\x00" + "\x01\x00" + "\x49\x00\x00\x00" + "\x39\x00\x00\x00" + "\x00\x00"
	checkText(t, "what is gone", s, of(api.Entry{Name: "z", Gone: true, Vec: []int{0, 0, 0, 7}, Stamp: 1}))
}

func TestHowManyEntries(t *testing.T) {
	checkRead(t, "none", api.Folder{})
	for what, e := range map[string]api.Entry{
		"stored": stored("", "abc"), "empty": stored("", ""), "deflated": deflated("", "abcd", 7), "of no bytes": deflated("", "", 0), "gone": gone(""),
	} {
		var f api.Folder
		for n := 1; n <= 6; n++ {
			f.Entries = append(f.Entries, with(e, func(e *api.Entry) { e.Name, e.Vec[2] = strconv.Itoa(n), n }))
			checkRead(t, strconv.Itoa(n)+" "+what, f)
		}
	}
	var names []string
	for n := 1; n <= 6; n++ {
		names = append(names, "f"+strconv.Itoa(n))
		checkRead(t, strconv.Itoa(n)+" entries of all kinds", named(names...))
	}
}

func TestNames(t *testing.T) {
	for _, e := range []api.Entry{stored("", "abc"), deflated("", "abc", 3), gone("")} {
		for _, name := range []string{"a", "z", "0", "9", "-a", "_", "...", "..a", "a.", "a.b", "z-9_.a", "abcdefg", "12345678"} {
			around(t, "called "+name, with(e, func(e *api.Entry) { e.Name = name }))
		}
		for n := 1; n <= 8; n++ {
			around(t, "a name of "+strconv.Itoa(n), with(e, func(e *api.Entry) { e.Name = strings.Repeat("y", n) }))
		}
	}
	checkRead(t, "the longest names", named("aaaaaaaa", "bbbbbbbb", "cccccccc", "dddddddd", "eeeeeeee", "ffffffff"))
	checkRead(t, "the shortest names", named("-", "0", "9", "_", "a", "z"))
	checkRead(t, "one in another", named("a", "aa", "aaa", "aaaa", "aaaaa", "aaaaaa"))
}

func TestHeads(t *testing.T) {
	for _, e := range []api.Entry{stored("m", "abc"), deflated("m", "abc", 3), gone("m")} {
		for node := range 4 {
			for _, count := range []int{0, 1, 255, 256, 65535, 65536, full - 1, full} {
				around(t, "a count", with(e, func(e *api.Entry) { e.Vec[node] = count }))
			}
			around(t, "Node", with(e, func(e *api.Entry) { e.Node = node }))
		}
		for _, stamp := range []int{1, 2, 255, 256, 65535, 65536, full - 1, full} {
			around(t, "Stamp", with(e, func(e *api.Entry) { e.Stamp = stamp }))
		}
	}
}

func TestHowManyBytesPacked(t *testing.T) {
	for n := range most + 1 {
		checkRead(t, strconv.Itoa(n)+" stored", of(stored("m", text(n))))
		checkRead(t, strconv.Itoa(n)+" deflated", of(deflated("m", text(n), most-n)))
	}
	for _, n := range []int{0, 1, 2, 255, 256, 257, 299, most} {
		around(t, strconv.Itoa(n)+" stored", stored("m", text(n)))
		for _, size := range []int{0, 1, 255, 256, 299, most} {
			around(t, strconv.Itoa(n)+" deflated", deflated("m", text(n), size))
		}
	}
}

func TestSums(t *testing.T) {
	for _, e := range []api.Entry{stored("m", "abc"), stored("m", ""), deflated("m", "abc", 3)} {
		for _, sum := range []int{0, 1, 255, 256, 65535, 65536, 1 << 24, 1<<31 - 1, 1 << 31, sums - 1, sums} {
			around(t, "Crc", with(e, func(e *api.Entry) { e.Crc = sum }))
		}
	}
}

func TestTheMostBytes(t *testing.T) {
	for _, method := range []int{0, 8} {
		var f api.Folder
		for i := range 6 {
			e := stored("zzzzzzz"+strconv.Itoa(i), text(most))
			e.Vec, e.Stamp, e.Node, e.Method, e.Crc = []int{full, full, full, full}, full, 3, method, sums
			f.Entries = append(f.Entries, e)
		}
		if n := zipput.Size(f); n != 2686 {
			t.Errorf("the test is wrong: %d bytes", n)
		}
		checkRead(t, "the most bytes", f)
	}
}

// Where a part ends is told by its lengths: what looks like the next one, and
// stands in Packed, turns nothing.
func TestMarksInPackedBytes(t *testing.T) {
	inner, _ := zipput.Put(of(stored("a", "x")))
	for _, packed := range []string{"PK\x03\x04", "PK\x01\x02", "PK\x05\x06", "PK", endOfNone, inner, inner[:61], "PK\x03\x04" + endOfNone, strings.Repeat("PK\x03\x04", 75)} {
		around(t, "stored", stored("m", packed))
		around(t, "deflated", deflated("m", packed, 5))
	}
}

func TestFilesOfLayer9(t *testing.T) {
	texts := []string{"", "a", strings.Repeat("portage ", 37), text(most), strings.Repeat("x", most), endOfNone}
	var f api.Folder
	for i, s := range texts {
		e := api.Entry{Name: "f" + strconv.Itoa(i), Vec: []int{i, 1, 2, 3}, Stamp: 1 + i, Node: i % 4, Size: len(s), Crc: crc.Of(s)}
		e.Method, e.Packed, _ = deflate.Pack(s)
		f.Entries = append(f.Entries, e)
	}
	checkRead(t, "packed by layer 9", f)
	s, _ := zipput.Put(f)
	got, _ := zipget.Get(s)
	for i, e := range got.Entries {
		if s, err := deflate.Unpack(e.Method, e.Packed, e.Size); s != texts[i] || err != api.OK || crc.Of(s) != e.Crc {
			t.Errorf("P14.1: %s: %q, %d, want %q", e.Name, s, err, texts[i])
		}
	}
}

// folder makes one that may be written, by a row of numbers.
func folder(next func(n int) int) api.Folder {
	var f api.Folder
	for _, name := range []string{"-", "...", "0", "a", "a.b", "abcdefgh", "b", "z-9", "zz"} {
		if len(f.Entries) == 6 || next(2) == 0 {
			continue
		}
		e := api.Entry{Name: name, Vec: []int{next(full + 1), next(3), next(full + 1), next(3)}, Stamp: 1 + next(full), Node: next(4)}
		switch next(3) {
		case 0:
			e.Gone = true
		case 1:
			e.Packed, e.Crc = text(next(most+1)), next(sums+1)
			e.Size = len(e.Packed)
		case 2:
			e.Method, e.Packed, e.Size, e.Crc = 8, text(next(most+1)), next(most+1), next(sums+1)
		}
		f.Entries = append(f.Entries, e)
	}
	return f
}

// row is numbers by chance, that are always the same.
func row(seed uint64) func(n int) int {
	return func(n int) int {
		seed = seed*6364136223846793005 + 1442695040888963407
		return int(seed>>31) % n
	}
}

func TestManyFolders(t *testing.T) {
	next := row(13)
	seen := [7]int{}
	for range 2000 {
		f := folder(next)
		seen[len(f.Entries)]++
		checkRead(t, strconv.Itoa(len(f.Entries))+" entries by chance", f)
	}
	if slices.Contains(seen[:], 0) {
		t.Fatalf("the test is wrong: %v", seen)
	}
}
