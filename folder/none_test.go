package folder_test

import (
	"math"
	"strconv"
	"strings"
	"testing"

	"portage/api"
	"portage/folder"
)

// wrongTurns is what makes of an entry, whatever it is, one that may not be.
func wrongTurns() map[string]func(e *api.Entry) {
	return map[string]func(e *api.Entry){
		"no name":             func(e *api.Entry) { e.Name = "" },
		"a great letter":      func(e *api.Entry) { e.Name = "M" },
		"a dot":               func(e *api.Entry) { e.Name = "." },
		"two dots":            func(e *api.Entry) { e.Name = ".." },
		"a slash":             func(e *api.Entry) { e.Name = "m/" },
		"nine bytes":          func(e *api.Entry) { e.Name = "m12345678" },
		"no Vec":              func(e *api.Entry) { e.Vec = nil },
		"a Vec of 3":          func(e *api.Entry) { e.Vec = e.Vec[:3] },
		"a Vec of 5":          func(e *api.Entry) { e.Vec = append(e.Vec, 0) },
		"a count below 0":     func(e *api.Entry) { e.Vec[3] = -1 },
		"a count too great":   func(e *api.Entry) { e.Vec[0] = full + 1 },
		"Stamp 0":             func(e *api.Entry) { e.Stamp = 0 },
		"Stamp below 0":       func(e *api.Entry) { e.Stamp = -1 },
		"Stamp too great":     func(e *api.Entry) { e.Stamp = full + 1 },
		"Node below 0":        func(e *api.Entry) { e.Node = -1 },
		"Node 4":              func(e *api.Entry) { e.Node = 4 },
		"Method 1":            func(e *api.Entry) { e.Method = 1 },
		"Method below 0":      func(e *api.Entry) { e.Method = -8 },
		"the other Method":    func(e *api.Entry) { e.Method = 8 - e.Method },
		"more Packed":         func(e *api.Entry) { e.Packed += "x" },
		"far more Packed":     func(e *api.Entry) { e.Packed += strings.Repeat("x", 70000) },
		"more Packed, Size":   func(e *api.Entry) { e.Packed, e.Size = e.Packed+"x", e.Size+1 },
		"Size one more":       func(e *api.Entry) { e.Size++ },
		"Size one less":       func(e *api.Entry) { e.Size-- },
		"Size below 0":        func(e *api.Entry) { e.Size = math.MinInt },
		"Size too great":      func(e *api.Entry) { e.Size = math.MaxInt },
		"another sum":         func(e *api.Entry) { e.Crc ^= 1 << 31 },
		"a sum below 0":       func(e *api.Entry) { e.Crc -= 1 << 32 },
		"a sum beyond four":   func(e *api.Entry) { e.Crc += 1 << 32 },
		"gone, with bytes":    func(e *api.Entry) { e.Gone, e.Packed, e.Size = true, "x", 1 },
		"gone, with a sum":    func(e *api.Entry) { e.Gone, e.Crc = true, 1 },
		"gone, with a Size":   func(e *api.Entry) { e.Gone, e.Size = true, 1 },
		"gone, with a Method": func(e *api.Entry) { e.Gone, e.Method = true, 8 },
		"no stream":           func(e *api.Entry) { e.Gone, e.Method, e.Packed = false, 8, "\x07" },
		"the zero value":      func(e *api.Entry) { *e = api.Entry{} },
	}
}

// wrongEntries is entries that may not be.
func wrongEntries() map[string]api.Entry {
	es := map[string]api.Entry{}
	for kind, e := range map[string]api.Entry{
		"stored": written("m", "abc", 4, 1, 1, 2, 3, 4), "packed": written("m", strings.Repeat("abc", 9), 4, 1, 1, 2, 3, 4), "gone": left("m", 4, 1, 1, 2, 3, 4),
	} {
		for what, turn := range wrongTurns() {
			es[kind+", "+what] = with(e, turn)
		}
	}
	es["stored, too long"] = with(written("m", "", 4, 1, 1, 2, 3, 4), func(e *api.Entry) { e.Packed, e.Size = strings.Repeat("x", most+1), most+1 })
	return es
}

// wrongFolders is folders that may not be.
func wrongFolders() map[string]api.Folder {
	m := written("m", "abc", 4, 1, 1, 2, 3, 4)
	fs := map[string]api.Folder{
		"seven entries": files("a", "b", "c", "d", "e", "f", "m"),
		"many entries":  {Entries: make([]api.Entry, 1000)},
		"names falling": of(files("z").Entries[0], m),
		"a name twice":  of(m, m),
		"twice, behind": of(files("a").Entries[0], m, m),
		"not rising":    of(files("a").Entries[0], files("z").Entries[0], m),
	}
	for what, e := range wrongEntries() {
		fs[what] = of(e)
		if e.Name == "m" {
			fs[what+", between"] = of(files("a").Entries[0], e, files("z").Entries[0])
			fs[what+", behind"] = of(append(files("a", "b").Entries, e)...)
			fs[what+", first"] = of(append([]api.Entry{e}, files("x", "y", "z").Entries...)...)
		}
	}
	return fs
}

func TestFoldersThatMayNotBe(t *testing.T) {
	for what, f := range wrongFolders() {
		for _, name := range []string{"m", "a", "k", "", "M", "m/"} {
			for _, node := range []int{-1, 0, 3, 4} {
				for _, s := range []string{"text", strings.Repeat("x", most+1)} {
					got, err := folder.Put(f, node, name, s)
					checkErr(t, "P16.1: Put: "+what, got, err, api.ErrFolderForm)
				}
				got, err := folder.Del(f, node, name)
				checkErr(t, "P16.1: Del: "+what, got, err, api.ErrFolderForm)
			}
			if s, err := folder.Text(f, name); s != "" || err != api.ErrFolderForm {
				t.Errorf("P16.2: Text: %s: %q, %d", what, s, err)
			}
		}
		if called := folder.Names(f); len(called) != 0 {
			t.Errorf("P16.2: Names: %s: %q", what, called)
		}
		for _, es := range [][]api.Entry{nil, {}, files("m").Entries, f.Entries, files("a", "b", "c", "d", "e", "f", "g", "h").Entries} {
			got, err := folder.Merge(f, es)
			checkErr(t, "P16.3: Merge: "+what, got, err, api.ErrFolderForm)
		}
	}
}

func TestNodes(t *testing.T) {
	for _, f := range []api.Folder{{}, files("m"), files("a", "b", "c", "d", "e", "m"), of(left("m", full, 3, full, full, full, full))} {
		for _, node := range []int{-1, -4, 4, 5, 255, 256, 1 << 32, -1 << 32, math.MinInt, math.MaxInt} {
			for _, name := range []string{"m", "k", "", "M", "123456789"} {
				for _, s := range []string{"", "text", strings.Repeat("x", most+1)} {
					got, err := folder.Put(f, node, name, s)
					checkErr(t, "P16.1: Put by "+strconv.Itoa(node), got, err, api.ErrFolderForm)
				}
				got, err := folder.Del(f, node, name)
				checkErr(t, "P16.1: Del by "+strconv.Itoa(node), got, err, api.ErrFolderForm)
			}
		}
	}
}

func TestWrongNames(t *testing.T) {
	for _, f := range []api.Folder{{}, files("m"), files("a", "b", "c", "d", "e", "m"), of(left("m", full, 3, full, full, full, full))} {
		for _, name := range []string{"", ".", "..", "M", "a/b", "a b", "m\x00", "\xc3\xa4", "123456789", "a\n", "`", "{", strings.Repeat("m", 70000)} {
			for _, s := range []string{"", "text", strings.Repeat("x", most+1)} {
				got, err := folder.Put(f, 1, name, s)
				checkErr(t, "P16.1: Put of a wrong name", got, err, api.ErrFolderName)
			}
			got, err := folder.Del(f, 1, name)
			checkErr(t, "P16.1: Del of a wrong name", got, err, api.ErrFolderName)
			if s, err := folder.Text(f, name); s != "" || err != api.ErrFolderName {
				t.Errorf("P16.2: Text of a wrong name: %q, %d", s, err)
			}
		}
	}
}

// The Stamp stops all nodes, a count its own one.
func TestCounts(t *testing.T) {
	for _, kind := range []api.Entry{written("m", "abc", 1, 1, 0, 0, 0, 0), written("m", strings.Repeat("abc", 9), 1, 1, 0, 0, 0, 0), left("m", 1, 1, 0, 0, 0, 0)} {
		for mask := range 1 << 4 {
			for _, stamp := range []int{1, full - 1, full} {
				e := with(kind, func(e *api.Entry) {
					e.Stamp = stamp
					for node := range e.Vec {
						e.Vec[node] = full - 1 + mask>>node&1
					}
				})
				for _, f := range []api.Folder{of(e), taking(files("a", "z"), e), taking(files("a", "b", "c", "y", "z"), e)} {
					for node := range 4 {
						checkCount(t, f, e, node, stamp == full || mask>>node&1 == 1)
					}
				}
			}
		}
	}
}

// checkCount asks whether a node may write to e once more.
func checkCount(t *testing.T, f api.Folder, e api.Entry, node int, stops bool) {
	t.Helper()
	if !stops {
		next := stepped(e, node)
		checkPut(t, f, node, "m", "new", written("m", "new", next.Stamp, node, next.Vec...))
		if !e.Gone {
			checkDel(t, f, node, "m", next)
		}
		return
	}
	got, err := folder.Put(f, node, "m", "new")
	checkErr(t, "P16.1: Put at MaxCount", got, err, api.ErrFolderCount)
	got, err = folder.Put(f, node, "m", strings.Repeat("x", most+1))
	checkErr(t, "P16.1: Put of a long text at MaxCount", got, err, api.ErrFolderText)
	got, err = folder.Del(f, node, "m")
	if e.Gone {
		checkErr(t, "P16.1: Del of one that is gone, at MaxCount", got, err, api.ErrFolderNone)
	} else {
		checkErr(t, "P16.1: Del at MaxCount", got, err, api.ErrFolderCount)
	}
}

// What other names have stops nothing.
func TestCountsOfOtherNames(t *testing.T) {
	f := of(written("a", "abc", full, 3, full, full, full, full), written("m", "abc", 5, 3, 1, 2, 3, 4), left("z", full, 3, full, full, full, full))
	for node := range 4 {
		next := stepped(f.Entries[1], node)
		checkPut(t, f, node, "m", "new", written("m", "new", next.Stamp, node, next.Vec...))
		checkDel(t, f, node, "m", next)
		checkPut(t, f, node, "k", "new", with(written("k", "new", 1, node, 0, 0, 0, 0), func(e *api.Entry) { e.Vec[node] = 1 }))
	}
	if s, err := folder.Text(f, "a"); s != "abc" || err != api.OK {
		t.Errorf("P16.2: Text at MaxCount: %q, %d", s, err)
	}
}

// first is the first error that applies, of those that a row names.
func first(row ...api.Errno) api.Errno {
	for _, err := range row {
		if err != api.OK {
			return err
		}
	}
	return api.OK
}

// when is err, if it applies.
func when(applies bool, err api.Errno) api.Errno {
	if applies {
		return err
	}
	return api.OK
}

func TestWhichErrorIsFirst(t *testing.T) {
	six := of(append(files("a", "b", "c").Entries, left("g", 4, 0, 1, 1, 1, 1), left("h", full, 0, 1, 1, 1, 1), written("m", "abc", 4, 0, 1, full, 1, 1))...)
	wrong := of(append(copies(six.Entries[1:]), six.Entries[0])...)
	for _, f := range []api.Folder{six, wrong} {
		for _, node := range []int{0, 1, 4} {
			for _, name := range []string{"a", "g", "h", "m", "n", "N"} {
				form := when(f.Entries[0].Name != "a" || node == 4, api.ErrFolderForm)
				call := when(name == "N", api.ErrFolderName)
				count := when(name == "h" || name == "m" && node == 1, api.ErrFolderCount)
				for _, n := range []int{0, most, most + 1} {
					want := first(form, call, when(n > most, api.ErrFolderText), count, when(name == "n", api.ErrFolderFull))
					if got, err := folder.Put(f, node, name, strings.Repeat("x", n)); want != api.OK {
						checkErr(t, "P16.1, R6: Put", got, err, want)
					} else if err != api.OK || len(got.Entries) != 6 {
						t.Errorf("P16.1: Put: %v, %d", got, err)
					}
				}
				want := first(form, call, when(name == "n" || name == "g" || name == "h", api.ErrFolderNone), count)
				if got, err := folder.Del(f, node, name); want != api.OK {
					checkErr(t, "P16.1, R6: Del", got, err, want)
				} else if err != api.OK || len(got.Entries) != 6 {
					t.Errorf("P16.1: Del: %v, %d", got, err)
				}
				want = first(when(f.Entries[0].Name != "a", api.ErrFolderForm), call, when(name == "n" || name == "g" || name == "h", api.ErrFolderNone))
				if s, err := folder.Text(f, name); err != want || (s == "") != (want != api.OK) {
					t.Errorf("P16.2, R6: Text: %q, %d, want %d", s, err, want)
				}
			}
		}
	}
}

func TestNoSuchName(t *testing.T) {
	for _, f := range []api.Folder{{}, files("b"), files("b", "d", "f"), files("b", "c", "d", "e", "f", "g"), of(left("a", 1, 0, 1, 0, 0, 0), left("bb", 1, 0, 1, 0, 0, 0))} {
		for _, name := range []string{"a", "bb", "bbbbbbbb", "z", "0", "-"} {
			for node := range 4 {
				got, err := folder.Del(f, node, name)
				checkErr(t, "P16.1: Del of no file", got, err, api.ErrFolderNone)
			}
			if s, err := folder.Text(f, name); s != "" || err != api.ErrFolderNone {
				t.Errorf("P16.2: Text of no file: %q, %d", s, err)
			}
		}
	}
}
