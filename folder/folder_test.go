package folder_test

import (
	"hash/crc32"
	"slices"
	"strconv"
	"strings"
	"testing"

	"portage/api"
	"portage/deflate"
	"portage/folder"
	"portage/zipput"
)

// full is MaxCount, most MaxText, written out.
const (
	full = 1048576
	most = 300
)

func TestNumbers(t *testing.T) {
	if full != api.MaxCount || most != api.MaxText || api.MaxName != 8 || api.MaxNodes != 4 || api.MaxEntries != 6 || api.MaxImage != 4096 ||
		api.MethodStored != 0 || api.MethodDeflated != 8 || api.ErrFolderForm != 1600 || api.ErrFolderName != 1601 || api.ErrFolderText != 1602 ||
		api.ErrFolderNone != 1603 || api.ErrFolderFull != 1604 || api.ErrFolderCount != 1605 {
		t.Fatal("the test is wrong")
	}
}

// row is numbers by chance, that are always the same.
func row(seed uint64) func(n int) int {
	return func(n int) int {
		seed = seed*6364136223846793005 + 1442695040888963407
		return int(seed>>31) % n
	}
}

// noise is n bytes that no stream makes shorter.
func noise(n int) string {
	next := row(uint64(n) + 1)
	b := make([]byte, n)
	for i := range b {
		b[i] = byte(next(256))
	}
	return string(b)
}

// written is the file that a text makes, with this head.
func written(name string, text string, stamp int, node int, vec ...int) api.Entry {
	method, packed, err := deflate.Pack(text)
	if err != api.OK {
		panic("the test is wrong")
	}
	return api.Entry{
		Name: name, Vec: vec, Stamp: stamp, Node: node,
		Method: method, Packed: packed, Size: len(text), Crc: int(crc32.ChecksumIEEE([]byte(text))),
	}
}

// left is what is left of a file.
func left(name string, stamp int, node int, vec ...int) api.Entry {
	return api.Entry{Name: name, Gone: true, Vec: vec, Stamp: stamp, Node: node}
}

func of(es ...api.Entry) api.Folder {
	return api.Folder{Entries: es}
}

// files is a folder of files of these names.
func files(names ...string) api.Folder {
	var f api.Folder
	for i, name := range names {
		f.Entries = append(f.Entries, written(name, "text of "+name+strings.Repeat("!", 9*i), 3+i, i%4, 1, i, 2, 1))
	}
	return f
}

// with is e with something turned.
func with(e api.Entry, turn func(e *api.Entry)) api.Entry {
	e.Vec = slices.Clone(e.Vec)
	turn(&e)
	return e
}

// copies is a list of entries that shares no Vec with another one.
func copies(es []api.Entry) []api.Entry {
	var out []api.Entry
	for _, e := range es {
		out = append(out, with(e, func(e *api.Entry) {}))
	}
	return out
}

// taking is f with e for the entry of its name.
func taking(f api.Folder, e api.Entry) api.Folder {
	var es []api.Entry
	for _, x := range f.Entries {
		if x.Name != e.Name {
			es = append(es, x)
		}
	}
	es = copies(append(es, e))
	slices.SortFunc(es, func(a api.Entry, b api.Entry) int { return strings.Compare(a.Name, b.Name) })
	return api.Folder{Entries: es}
}

// same tells whether a and b are alike in each field.
func same(a api.Entry, b api.Entry) bool {
	return a.Name == b.Name && a.Gone == b.Gone && slices.Equal(a.Vec, b.Vec) &&
		a.Stamp == b.Stamp && a.Node == b.Node && a.Method == b.Method &&
		a.Packed == b.Packed && a.Size == b.Size && a.Crc == b.Crc
}

func sameFolder(a api.Folder, b api.Folder) bool {
	return slices.EqualFunc(a.Entries, b.Entries, same)
}

// check asks whether a call answered what is wanted.
func check(t *testing.T, what string, got api.Folder, err api.Errno, want api.Folder) {
	t.Helper()
	if err != api.OK || !sameFolder(got, want) {
		t.Errorf("%s: %v, %d, want %v", what, got, err, want)
	}
	if !zipput.May(want) {
		t.Errorf("the test is wrong: %s: %v", what, want)
	}
}

// checkErr asks whether a call answered an error, and nothing else.
func checkErr(t *testing.T, what string, got api.Folder, err api.Errno, want api.Errno) {
	t.Helper()
	if err != want {
		t.Errorf("%s: %d, want %d", what, err, want)
	}
	if got.Entries != nil {
		t.Errorf("R2: %s: %v beside an error", what, got)
	}
}

// checkPut asks for what a Put makes of the name's entry, and that nothing
// else is turned.
func checkPut(t *testing.T, f api.Folder, node int, name string, text string, want api.Entry) {
	t.Helper()
	what := "P16.1: Put by " + strconv.Itoa(node) + " of " + strconv.Quote(name) + ", " + strconv.Quote(text)
	got, err := folder.Put(f, node, name, text)
	check(t, what, got, err, taking(f, want))
	if s, err := folder.Text(got, name); s != text || err != api.OK {
		t.Errorf("P16.2: %s: Text: %q, %d", what, s, err)
	}
	if called := folder.Names(got); !slices.Contains(called, name) || !slices.IsSorted(called) {
		t.Errorf("P16.2: %s: Names: %q", what, called)
	}
}

// checkDel asks for what a Del makes of the name's entry likewise.
func checkDel(t *testing.T, f api.Folder, node int, name string, want api.Entry) {
	t.Helper()
	what := "P16.1: Del by " + strconv.Itoa(node) + " of " + strconv.Quote(name)
	got, err := folder.Del(f, node, name)
	check(t, what, got, err, taking(f, want))
	if s, err := folder.Text(got, name); s != "" || err != api.ErrFolderNone {
		t.Errorf("P16.2: %s: Text: %q, %d", what, s, err)
	}
	if called := folder.Names(got); slices.Contains(called, name) || !slices.IsSorted(called) {
		t.Errorf("P16.2: %s: Names: %q", what, called)
	}
	again, err := folder.Del(got, node, name)
	checkErr(t, what+", again", again, err, api.ErrFolderNone)
}

// checkNames asks for the names of a folder that may be, and that no other
// name has a text.
func checkNames(t *testing.T, f api.Folder, want ...string) {
	t.Helper()
	got := folder.Names(f)
	if !slices.Equal(got, want) {
		t.Errorf("P16.2: %v: Names: %q, want %q", f, got, want)
	}
	for _, name := range append([]string{"a", "b", "c", "d", "z", "zz", "-", "..."}, want...) {
		s, err := folder.Text(f, name)
		if is := err == api.OK; is != slices.Contains(want, name) || !is && (s != "" || err != api.ErrFolderNone) {
			t.Errorf("P16.2: %v: Text(%q): %q, %d", f, name, s, err)
		}
	}
}

// texts is texts that are packed in different ways.
func texts() []string {
	return []string{
		"", "a", "aaaa", "aaaaa", "\x00", "\xff\xff\xff\xff", "\x9d\x0a\xd9\x6d", "portage", strings.Repeat("portage ", 37), "PK\x03\x04",
		noise(1), noise(20), noise(most - 1), noise(most), strings.Repeat("x", most-1), strings.Repeat("x", most),
	}
}

func TestPutOfTheFirstFile(t *testing.T) {
	methods := map[int]int{}
	for _, s := range texts() {
		for node, vec := range [][]int{{1, 0, 0, 0}, {0, 1, 0, 0}, {0, 0, 1, 0}, {0, 0, 0, 1}} {
			for _, name := range []string{"m", "a.txt", "12345678", "...", "-", "_"} {
				want := written(name, s, 1, node, vec...)
				methods[want.Method]++
				checkPut(t, api.Folder{}, node, name, s, want)
				checkPut(t, of([]api.Entry{}...), node, name, s, want)
			}
		}
	}
	if methods[0] == 0 || methods[8] == 0 {
		t.Errorf("the test is wrong: %v", methods)
	}
}

// Each field of an entry as it is written out, for one text of each method.
func TestFieldsOfFiles(t *testing.T) {
	f, _ := folder.Put(api.Folder{}, 2, "a", "Hello")
	f, _ = folder.Put(f, 3, "b", "aaaaa")
	f, _ = folder.Put(f, 0, "c", "")
	f, _ = folder.Put(f, 0, "b", "aaaaa")
	check(t, "P16.1: three files", f, api.OK, of(
		api.Entry{Name: "a", Vec: []int{0, 0, 1, 0}, Stamp: 1, Node: 2, Method: 0, Packed: "Hello", Size: 5, Crc: 0xf7d18982},
		api.Entry{Name: "b", Vec: []int{1, 0, 0, 1}, Stamp: 2, Node: 0, Method: 8, Packed: "\x4b\x04\x01\x00", Size: 5, Crc: int(crc32.ChecksumIEEE([]byte("aaaaa")))},
		api.Entry{Name: "c", Vec: []int{1, 0, 0, 0}, Stamp: 1, Node: 0},
	))
	f, _ = folder.Del(f, 1, "b")
	f, _ = folder.Del(f, 1, "c")
	check(t, "P16.1: two of them gone", f, api.OK, of(
		api.Entry{Name: "a", Vec: []int{0, 0, 1, 0}, Stamp: 1, Node: 2, Method: 0, Packed: "Hello", Size: 5, Crc: 0xf7d18982},
		api.Entry{Name: "b", Gone: true, Vec: []int{1, 1, 0, 1}, Stamp: 3, Node: 1},
		api.Entry{Name: "c", Gone: true, Vec: []int{1, 1, 0, 0}, Stamp: 2, Node: 1},
	))
}

func TestPutOfTextsOfEachLength(t *testing.T) {
	f := files("a", "m", "z")
	for n := range most + 1 {
		for _, s := range []string{noise(n), strings.Repeat("abc,", 75)[:n]} {
			checkPut(t, f, 1, "k", s, written("k", s, 1, 1, 0, 1, 0, 0))
		}
	}
	for _, n := range []int{most + 1, most + 2, 511, 4096, 8193, 70000} {
		for _, s := range []string{noise(n), strings.Repeat("x", n)} {
			for _, name := range []string{"k", "a", "m", "z"} {
				got, err := folder.Put(f, 1, name, s)
				checkErr(t, "P16.1: a text of "+strconv.Itoa(n), got, err, api.ErrFolderText)
			}
		}
	}
}

// A new name may stand ahead of the others, between them or behind them.
func TestPutOfNewNames(t *testing.T) {
	folders := []api.Folder{files("m"), files("b", "y"), files("b", "d", "f"), files("a.", "a_", "aa"), files("b", "d", "f", "h", "j"), of(left("b", 3, 3, 0, 0, 0, 3), left("d", 4, 1, 9, 9, 9, 9))}
	for _, f := range folders {
		for _, name := range []string{"-", ".a", "0", "a", "a-", "a.0", "a0", "aaa", "c", "e", "g", "i", "k", "l", "n", "z", "zzzzzzzz", "12345678"} {
			for node, vec := range [][]int{{1, 0, 0, 0}, {0, 1, 0, 0}, {0, 0, 1, 0}, {0, 0, 0, 1}} {
				checkPut(t, f, node, name, "new", written(name, "new", 1, node, vec...))
			}
		}
	}
}

// heads is heads that a next step follows, and that step's by each node.
func heads() []api.Entry {
	var es []api.Entry
	for _, vec := range [][]int{{0, 0, 0, 0}, {1, 2, 3, 4}, {full - 1, full - 1, full - 1, full - 1}, {255, 256, 65535, 65536}} {
		for i, stamp := range []int{1, 2, 255, full - 1} {
			es = append(es, left("m", stamp, i, vec...))
		}
	}
	return es
}

// stepped is the head that a node makes of e's.
func stepped(e api.Entry, node int) api.Entry {
	return with(left(e.Name, e.Stamp+1, node, e.Vec...), func(e *api.Entry) { e.Vec[node]++ })
}

// The steps follow what stood there, be it a file or gone; of what was packed
// nothing is left.
func TestPutOfNamesThatAreThere(t *testing.T) {
	for _, old := range heads() {
		for _, e := range []api.Entry{old, written("m", "old", old.Stamp, old.Node, old.Vec...), written("m", strings.Repeat("old ", 50), old.Stamp, old.Node, old.Vec...)} {
			for _, f := range []api.Folder{of(e), taking(files("a", "b", "y", "z"), e), taking(files("a", "b", "c", "y", "z"), e)} {
				for node := range 4 {
					next := stepped(e, node)
					for _, s := range []string{"", "new", strings.Repeat("new ", 50)} {
						checkPut(t, f, node, "m", s, written("m", s, next.Stamp, next.Node, next.Vec...))
					}
					if e.Gone {
						got, err := folder.Del(f, node, "m")
						checkErr(t, "P16.1: Del of one that is gone", got, err, api.ErrFolderNone)
					} else {
						checkDel(t, f, node, "m", next)
					}
				}
			}
		}
	}
}

// The same text again is written again.
func TestPutOfTheSameText(t *testing.T) {
	var f api.Folder
	for i := range 5 {
		got, err := folder.Put(f, 1, "m", "text")
		check(t, "P16.1: the same text again", got, err, of(written("m", "text", i+1, 1, 0, i+1, 0, 0)))
		f = got
	}
}

func TestDelOfEachOfSeveral(t *testing.T) {
	for _, f := range []api.Folder{files("a"), files("a", "b"), files("a", "b", "c", "d", "e", "f"), files("-", ".a", "0", "_", "a.", "aa")} {
		for _, e := range f.Entries {
			for node := range 4 {
				checkDel(t, f, node, e.Name, stepped(e, node))
			}
		}
	}
	names := []string{"a", "b", "c", "d", "e", "f"}
	f := files(names...)
	for place, e := range f.Entries {
		got, err := folder.Del(f, 3, e.Name)
		f = taking(f, stepped(e, 3))
		check(t, "P16.1: Del of one behind the other", got, err, f)
		checkNames(t, got, names[place+1:]...)
	}
}

func TestNames(t *testing.T) {
	checkNames(t, api.Folder{})
	checkNames(t, of([]api.Entry{}...))
	checkNames(t, files("a"), "a")
	checkNames(t, files("-", ".a", "0", "_", "a", "b"), "-", ".a", "0", "_", "a", "b")
	for mask := range 1 << 6 {
		f := files("a", "b", "c", "d", "e", "f")
		var want []string
		for i, e := range f.Entries {
			if mask>>i&1 == 1 {
				f.Entries[i] = left(e.Name, e.Stamp, e.Node, e.Vec...)
			} else {
				want = append(want, e.Name)
			}
		}
		checkNames(t, f, want...)
	}
}

func TestTexts(t *testing.T) {
	for _, s := range texts() {
		f := taking(files("a", "c", "e"), written("d", s, 1, 0, 0, 0, 0, 0))
		for range 2 {
			if got, err := folder.Text(f, "d"); got != s || err != api.OK {
				t.Errorf("P16.2: Text: %q, %d, want %q", got, err, s)
			}
		}
	}
	// Of several texts the last one is told.
	var f api.Folder
	for i, s := range append(texts(), texts()...) {
		f, _ = folder.Put(f, i%4, "m", s)
		if got, err := folder.Text(f, "m"); got != s || err != api.OK {
			t.Errorf("P16.2: Text of the last one: %q, %d, want %q", got, err, s)
		}
	}
	// A stream need not be the one that layer 9's Pack tells.
	e := with(written("m", "abc", 1, 0, 1, 0, 0, 0), func(e *api.Entry) { e.Method, e.Packed = 8, "\x01\x03\x00\xfc\xffabc" })
	if got, err := folder.Text(of(e), "m"); got != "abc" || err != api.OK {
		t.Errorf("P16.2: Text of another stream: %q, %d", got, err)
	}
	checkPut(t, of(e), 1, "m", "abc", written("m", "abc", 2, 1, 1, 1, 0, 0))
}

func TestMostEntries(t *testing.T) {
	six := files("b", "d", "f", "h", "j", "l")
	gone := six
	for _, e := range six.Entries {
		gone = taking(gone, left(e.Name, e.Stamp, e.Node, e.Vec...))
	}
	for _, f := range []api.Folder{six, gone, taking(six, left("f", 9, 2, 9, 9, 9, 9))} {
		for _, name := range []string{"a", "c", "e", "g", "i", "k", "m", "bb"} {
			for _, s := range []string{"", "new", noise(most)} {
				got, err := folder.Put(f, 1, name, s)
				checkErr(t, "P16.1: a seventh entry", got, err, api.ErrFolderFull)
			}
			got, err := folder.Del(f, 1, name)
			checkErr(t, "P16.1: Del of a seventh name", got, err, api.ErrFolderNone)
		}
		for _, e := range f.Entries {
			next := stepped(e, 2)
			checkPut(t, f, 2, e.Name, "new", written(e.Name, "new", next.Stamp, 2, next.Vec...))
		}
	}
	five := files("b", "d", "f", "h", "j")
	for _, name := range []string{"a", "c", "k", "zz"} {
		checkPut(t, five, 1, name, "new", written(name, "new", 1, 1, 0, 1, 0, 0))
	}
}

// No folder comes to more bytes than these: MaxImage is never met.
func TestMostBytes(t *testing.T) {
	var f api.Folder
	s := noise(most)
	for i := range 6 {
		name := "1234567" + strconv.Itoa(i)
		checkPut(t, f, 3, name, s, written(name, s, 1, 3, 0, 0, 0, 1))
		f = taking(f, written(name, s, 1, 3, 0, 0, 0, 1))
	}
	if n := zipput.Size(f); n != 2686 || n > api.MaxImage {
		t.Errorf("the test is wrong: %d bytes", n)
	}
	for i, e := range f.Entries {
		checkPut(t, f, i%4, e.Name, s, written(e.Name, s, 2, i%4, stepped(e, i%4).Vec...))
		checkDel(t, f, i%4, e.Name, stepped(e, i%4))
	}
	got, err := folder.Merge(f, f.Entries)
	check(t, "P16.3: the most bytes", got, err, f)
}
