package zipput_test

import (
	"math"
	"slices"
	"strconv"
	"strings"
	"testing"

	"portage/api"
	"portage/zipput"
)

// full is MaxCount, most MaxText, sums the greatest sum, written out.
const (
	full = 1048576
	most = 300
	sums = 4294967295
)

func TestNumbers(t *testing.T) {
	if full != api.MaxCount || most != api.MaxText || api.MaxEntries != 6 || api.MaxName != 8 || api.MaxNodes != 4 || api.MaxImage != 4096 || api.Extra != 26 || api.MethodStored != 0 || api.MethodDeflated != 8 {
		t.Fatal("the test is wrong")
	}
}

// text is n bytes, of which none is the one ahead of it.
func text(n int) string {
	b := make([]byte, n)
	for i := range b {
		b[i] = byte(i*7 + i/256)
	}
	return string(b)
}

// stored is a file of these bytes.
func stored(name string, packed string) api.Entry {
	return api.Entry{Name: name, Vec: []int{1, 2, 3, 4}, Stamp: 5, Node: 1, Packed: packed, Size: len(packed), Crc: 0x0a0b0c0d}
}

// deflated is a file of these bytes, that may not be a stream.
func deflated(name string, packed string, size int) api.Entry {
	return api.Entry{Name: name, Vec: []int{0, full, 7, 256}, Stamp: 65537, Node: 3, Method: 8, Packed: packed, Size: size, Crc: 77}
}

// gone is what is left of a file.
func gone(name string) api.Entry {
	return api.Entry{Name: name, Gone: true, Vec: []int{9, 0, 0, 1}, Stamp: 2, Node: 2}
}

// of is a folder of these entries.
func of(es ...api.Entry) api.Folder {
	return api.Folder{Entries: es}
}

// named is a folder of entries of all kinds, called so.
func named(names ...string) api.Folder {
	var f api.Folder
	for i, name := range names {
		f.Entries = append(f.Entries, []api.Entry{stored(name, "text"), gone(name), deflated(name, "packed", 40)}[i%3])
	}
	return f
}

// with is e with something turned.
func with(e api.Entry, turn func(e *api.Entry)) api.Entry {
	e.Vec = slices.Clone(e.Vec)
	turn(&e)
	return e
}

// checkTold asks whether f may be written, how long it is and what it is, each
// held against the bytes that are written elsewhere here.
func checkTold(t *testing.T, what string, f api.Folder) {
	t.Helper()
	want := written(f)
	for range 2 {
		if !zipput.May(f) {
			t.Errorf("P13.1: %s: may not be written", what)
		}
		if n := zipput.Size(f); n != len(want) {
			t.Errorf("P13.1: %s: Size %d, want %d", what, n, len(want))
		}
		if s, err := zipput.Put(f); s != want || err != api.OK {
			t.Errorf("P13.2: %s: %q, %d, want %q", what, s, err, want)
		}
	}
}

func checkNone(t *testing.T, what string, f api.Folder) {
	t.Helper()
	for range 2 {
		if zipput.May(f) {
			t.Errorf("P13.1: %s: may be written", what)
		}
		if n := zipput.Size(f); n != 0 {
			t.Errorf("P13.1: %s: Size %d, want 0", what, n)
		}
		s, err := zipput.Put(f)
		if err != api.ErrZipPutForm {
			t.Errorf("P13.2: %s: %d, want ErrZipPutForm", what, err)
		}
		if s != "" {
			t.Errorf("R2: %s: %q beside an error", what, s)
		}
	}
}

// around asks for e by itself, and ahead of, between and behind others.
func around(t *testing.T, check func(t *testing.T, what string, f api.Folder), what string, e api.Entry) {
	t.Helper()
	low, high := stored("-", "low"), deflated("zzzzzzzz", "high", 9)
	check(t, what+", alone", of(e))
	check(t, what+", first", of(e, high))
	check(t, what+", last", of(low, e))
	check(t, what+", between", of(low, e, high))
}

func TestHowManyEntries(t *testing.T) {
	checkTold(t, "nil", api.Folder{})
	checkTold(t, "empty", of([]api.Entry{}...))
	checkTold(t, "empty, spare room", api.Folder{Entries: make([]api.Entry, 0, 9)})
	var names []string
	for n := 1; n <= 40; n++ {
		names = append(names, "f"+strconv.Itoa(100+n))
		f := named(names...)
		if n <= 6 {
			checkTold(t, strconv.Itoa(n)+" entries", f)
			continue
		}
		checkNone(t, strconv.Itoa(n)+" entries", f)
	}
	// Of one kind too: none of them counts less.
	for _, e := range []api.Entry{stored("", ""), gone(""), deflated("", "", 0)} {
		var f api.Folder
		for n := 1; n <= 7; n++ {
			f.Entries = append(f.Entries, with(e, func(e *api.Entry) { e.Name = strconv.Itoa(n) }))
			if n < 7 {
				checkTold(t, strconv.Itoa(n)+" of one kind", f)
			}
		}
		checkNone(t, "7 of one kind", f)
	}
	checkNone(t, "6, and one of nothing", of(append(named("a", "b", "c", "d", "e", "f").Entries, api.Entry{})...))
	checkNone(t, "2^8 and 1", api.Folder{Entries: make([]api.Entry, 257)})
	checkNone(t, "2^16 and 1", api.Folder{Entries: make([]api.Entry, 65537)})
}

func TestNamesInTheirRow(t *testing.T) {
	for _, row := range [][]string{
		{"a", "b"}, {"a", "a-"}, {"a", "aa"}, {"aa", "ab", "b"}, {"10", "9"}, {"zz", "zza"},
		{"-", "...", "0", "9", "_", "a"}, {"a-", "a.", "a0", "a9", "a_", "az"},
		{"...", "..a", ".a", "a", "a.b", "z-9"}, {"abcdefgh", "abcdefgi"}, {"aaaaaaaa", "b"},
	} {
		checkTold(t, strings.Join(row, " "), named(row...))
		for i := 1; i < len(row); i++ {
			falls := slices.Clone(row)
			falls[i-1], falls[i] = falls[i], falls[i-1]
			checkNone(t, strings.Join(falls, " ")+", falling", named(falls...))
			twice := slices.Clone(row)
			twice[i] = twice[i-1]
			checkNone(t, strings.Join(twice, " ")+", twice", named(twice...))
			checkNone(t, "one again", named(slices.Insert(slices.Clone(row), i, row[i-1])...))
		}
	}
	for _, row := range [][]string{
		{"b", "a"}, {"b", "c", "a"}, {"a", "b", "a"}, {"b", "a", "c"}, {"aa", "b", "ab"}, {"9", "10"}, {"ab", "a"},
		{"a", "c", "b", "d"}, {"f", "e", "d", "c", "b", "a"}, {"a", "b", "c", "d", "f", "e"}, {"a", "b", "c", "d", "e", "e"},
	} {
		checkNone(t, strings.Join(row, " "), named(row...))
	}
	checkNone(t, "one twice, alike", of(gone("a"), gone("a")))
	checkNone(t, "there, and gone", of(stored("a", "x"), gone("a")))
	checkNone(t, "gone, and there", of(gone("a"), stored("a", "x")))
}

func TestNames(t *testing.T) {
	called := func(e api.Entry, name string) api.Entry {
		return with(e, func(e *api.Entry) { e.Name = name })
	}
	for _, e := range []api.Entry{stored("", "abc"), deflated("", "abc", 3), gone("")} {
		for _, name := range []string{"a", "z", "0", "9", "-a", "_", "...", "..a", "a.", "a.b", "12345678", "z-9_.a"} {
			around(t, checkTold, "called "+name, called(e, name))
		}
		for _, name := range []string{
			"", ".", "..", "123456789", "A", "Z", "aB", "a b", " ", "a/b", "/", "a\\b", "a\x00", "\x00", "a\n",
			"\xc3\xa9", "a\x80", "\xff", "{", "`", "@", ":", ",", "+", "*", "~", strings.Repeat("a", 264), strings.Repeat("a", 65537),
		} {
			around(t, checkNone, "called "+strconv.Quote(name[:min(9, len(name))]), called(e, name))
		}
	}
}

func TestHeads(t *testing.T) {
	wrong := []int{-1, -full, math.MinInt, math.MinInt32, full + 1, 2 * full, math.MaxInt, math.MaxInt32, 1 << 32, 1<<32 + 1}
	for _, e := range []api.Entry{stored("m", "abc"), deflated("m", "abc", 3), gone("m")} {
		for _, vec := range [][]int{nil, {}, {1}, {1, 2, 3}, {1, 2, 3, 4, 5}, {0, 0, 0, 0, 0}, make([]int, 3, 4), make([]int, 260)} {
			around(t, checkNone, "Vec", with(e, func(e *api.Entry) { e.Vec = vec }))
		}
		for node := range 4 {
			for _, count := range []int{0, 1, 255, 256, 65536, full - 1, full} {
				around(t, checkTold, "a count", with(e, func(e *api.Entry) { e.Vec[node] = count }))
			}
			for _, count := range wrong {
				around(t, checkNone, "a count", with(e, func(e *api.Entry) { e.Vec[node] = count }))
			}
			around(t, checkTold, "Node", with(e, func(e *api.Entry) { e.Node = node }))
		}
		for _, stamp := range []int{1, 2, 255, 256, 65536, full - 1, full} {
			around(t, checkTold, "Stamp", with(e, func(e *api.Entry) { e.Stamp = stamp }))
		}
		for _, stamp := range append(slices.Clone(wrong), 0) {
			around(t, checkNone, "Stamp", with(e, func(e *api.Entry) { e.Stamp = stamp }))
		}
		for _, node := range append(slices.Clone(wrong), -2, 4, 5, 255, 256, 1<<32+2) {
			around(t, checkNone, "Node", with(e, func(e *api.Entry) { e.Node = node }))
		}
	}
	checkNone(t, "nothing at all", of(api.Entry{}))
	checkNone(t, "no head", of(api.Entry{Name: "a", Packed: "x", Size: 1, Crc: 1}))
	checkNone(t, "no name", of(api.Entry{Vec: []int{0, 0, 0, 0}, Stamp: 1}))
	checkTold(t, "just a head and a name", of(api.Entry{Name: "a", Vec: []int{0, 0, 0, 0}, Stamp: 1}))
}

func TestWhatIsGoneHasNothingElse(t *testing.T) {
	around(t, checkTold, "nothing else", gone("m"))
	for _, n := range []int{1, 2, 8, -1, 7, 256, 65536, sums, 1 << 32, 1 << 40, math.MaxInt, math.MinInt} {
		around(t, checkNone, "Method", with(gone("m"), func(e *api.Entry) { e.Method = n }))
		around(t, checkNone, "Size", with(gone("m"), func(e *api.Entry) { e.Size = n }))
		around(t, checkNone, "Crc", with(gone("m"), func(e *api.Entry) { e.Crc = n }))
	}
	for _, packed := range []string{"x", "\x00", "\x03\x00", text(300), text(301)} {
		around(t, checkNone, "Packed", with(gone("m"), func(e *api.Entry) { e.Packed = packed }))
		around(t, checkNone, "Packed, Size", with(gone("m"), func(e *api.Entry) { e.Packed, e.Size = packed, len(packed) }))
	}
	// What may be written of a file, gone all at once.
	for _, e := range []api.Entry{stored("m", "x"), stored("m", ""), deflated("m", "\x03\x00", 0), deflated("m", "", 0)} {
		around(t, checkTold, "a file", e)
		around(t, checkNone, "the file, gone", with(e, func(e *api.Entry) { e.Gone = true }))
	}
}

func TestMethods(t *testing.T) {
	for method := -300; method <= 300; method++ {
		check := checkNone
		if method == 0 || method == 8 {
			check = checkTold
		}
		around(t, check, "Method "+strconv.Itoa(method), with(stored("m", "abc"), func(e *api.Entry) { e.Method = method }))
	}
	for _, method := range []int{1 << 16, 1<<16 + 8, 1 << 32, 1<<32 + 8, math.MaxInt, math.MinInt, math.MinInt + 8} {
		around(t, checkNone, "Method", with(stored("m", "abc"), func(e *api.Entry) { e.Method = method }))
		around(t, checkNone, "Method, nothing packed", with(stored("m", ""), func(e *api.Entry) { e.Method = method }))
	}
}

func TestStored(t *testing.T) {
	for _, n := range []int{0, 1, 2, 255, 256, 257, 299, 300} {
		e := stored("m", text(n))
		around(t, checkTold, strconv.Itoa(n)+" stored", e)
		for _, size := range []int{n + 1, n + 256, n - 1, n - 256, n + 1<<32, -n - 1, 0, 300} {
			if size != n {
				around(t, checkNone, strconv.Itoa(n)+" stored, another Size", with(e, func(e *api.Entry) { e.Size = size }))
			}
		}
	}
	for n := range 310 {
		check := checkTold
		if n > 300 {
			check = checkNone
		}
		check(t, strconv.Itoa(n)+" stored", of(stored("m", text(n))))
		if n > 0 {
			checkNone(t, "one more packed", of(with(stored("m", text(n)), func(e *api.Entry) { e.Size-- })))
		}
		checkNone(t, "one fewer packed", of(with(stored("m", text(n)), func(e *api.Entry) { e.Size++ })))
	}
	around(t, checkNone, "far too much", stored("m", text(70000)))
}

func TestDeflated(t *testing.T) {
	// Any Size may stand beside any bytes: what they come to is not asked.
	for _, n := range []int{0, 1, 255, 256, 299, 300} {
		for _, size := range []int{0, 1, 255, 256, 299, 300} {
			around(t, checkTold, strconv.Itoa(n)+" deflated", deflated("m", text(n), size))
		}
		for _, size := range []int{-1, -300, 301, 302, 556, 65536, 1 << 32, 1<<32 + 5, math.MaxInt, math.MinInt} {
			around(t, checkNone, strconv.Itoa(n)+" deflated, Size", deflated("m", text(n), size))
		}
	}
	for _, n := range []int{301, 302, 556, 600, 8192, 70000} {
		for _, size := range []int{0, 1, 300, 301, n} {
			around(t, checkNone, strconv.Itoa(n)+" deflated", deflated("m", text(n), size))
		}
	}
}

func TestSums(t *testing.T) {
	for _, e := range []api.Entry{stored("m", "abc"), stored("m", ""), deflated("m", "abc", 3)} {
		for _, sum := range []int{0, 1, 255, 256, 65536, 1 << 24, math.MaxInt32, 1 << 31, sums - 1, sums} {
			around(t, checkTold, "Crc", with(e, func(e *api.Entry) { e.Crc = sum }))
		}
		for _, sum := range []int{-1, -2, -sums, math.MinInt32, math.MinInt, sums + 1, sums + 2, 1 << 33, 1 << 40, math.MaxInt} {
			around(t, checkNone, "Crc", with(e, func(e *api.Entry) { e.Crc = sum }))
		}
	}
}

// Of two things that are wrong, at two entries, none makes the other right.
func TestTwoThingsWrong(t *testing.T) {
	low := with(stored("a", "x"), func(e *api.Entry) { e.Size = 2 })
	high := with(stored("b", "xy"), func(e *api.Entry) { e.Size = 1 })
	checkNone(t, "Sizes that make one sum", of(low, high))
	checkNone(t, "wrong names in their row", named("", "."))
	checkNone(t, "wrong names, falling", named("B", "A"))
	checkNone(t, "too many, and wrong", named("a", "b", "c", "d", "e", "f", "G"))
}
