package folder_test

import (
	"slices"
	"strconv"
	"strings"
	"testing"

	"portage/api"
	"portage/entry"
	"portage/folder"
	"portage/vector"
)

func checkMerge(t *testing.T, what string, f api.Folder, es []api.Entry, want api.Folder) {
	t.Helper()
	got, err := folder.Merge(f, es)
	check(t, "P16.3: "+what, got, err, want)
}

func checkNoMerge(t *testing.T, what string, f api.Folder, es []api.Entry, want api.Errno) {
	t.Helper()
	got, err := folder.Merge(f, es)
	checkErr(t, "P16.3: "+what, got, err, want)
}

// some is folders of several kinds.
func some() []api.Folder {
	return []api.Folder{
		{}, files("m"), of(left("m", 3, 1, 0, 3, 0, 0)), files("a", "m", "z"), files("b", "d", "f", "h", "j"), files("a", "b", "c", "d", "e", "f"),
		of(left("a", 1, 0, 1, 0, 0, 0), written("m", "", 1, 3, 0, 0, 0, 1), written("n", noise(most), 2, 2, 0, 0, 2, 0), left("z", full, 3, full, full, full, full)),
		of(written("m", "abc", full, 3, full, full, full, full)),
	}
}

func TestMergeOfNothing(t *testing.T) {
	for _, f := range some() {
		checkMerge(t, "no entries", f, nil, f)
		checkMerge(t, "no entries", f, []api.Entry{}, f)
		checkMerge(t, "its own entries", f, f.Entries, f)
		checkMerge(t, "its own entries twice", f, slices.Concat(f.Entries, copies(f.Entries)), f)
		checkMerge(t, "with the empty folder", api.Folder{}, f.Entries, f)
		turned := copies(f.Entries)
		slices.Reverse(turned)
		checkMerge(t, "with the empty folder, turned", api.Folder{}, turned, f)
	}
}

// Entries of new names stand as they are.
func TestMergeOfNewNames(t *testing.T) {
	news := []api.Entry{
		written("m", "new", 1, 0, 1, 0, 0, 0), written("m", "new", 7, 3, 9, 0, 2, full), written("m", strings.Repeat("new ", 70), full, 2, 0, 0, 0, 0),
		written("m", "", 1, 0, 1, 0, 0, 0), left("m", 2, 1, 1, 1, 0, 0), left("m", full, 3, full, full, full, full),
		with(written("m", "abc", 1, 0, 1, 0, 0, 0), func(e *api.Entry) { e.Method, e.Packed = 8, "\x01\x03\x00\xfc\xffabc" }),
	}
	for _, f := range []api.Folder{{}, files("b"), files("z"), files("b", "c", "z"), files("a", "b", "c", "d", "e"), files("v", "w", "x", "y", "z"), of(left("a", 1, 0, 1, 0, 0, 0))} {
		for _, e := range news {
			checkMerge(t, "a new name", f, []api.Entry{e}, taking(f, e))
			checkMerge(t, "a new name twice", f, []api.Entry{e, e}, taking(f, e))
		}
	}
	f := files("b", "d", "f")
	g, c, a := left("g", 3, 3, 0, 1, 2, 0), written("c", "new", 1, 0, 1, 0, 0, 0), written("a", "", 1, 1, 0, 1, 0, 0)
	want := taking(taking(taking(f, a), c), g)
	for _, es := range [][]api.Entry{{a, c, g}, {g, c, a}, {c, a, g}, {g, a, c, c, g}} {
		checkMerge(t, "three new names", f, es, want)
	}
}

// Of two the one wins that layer 15 says, and vectors are joined.
func TestMergeOfNamesThatAreThere(t *testing.T) {
	kinds := []func(stamp int, node int, vec ...int) api.Entry{
		func(stamp int, node int, vec ...int) api.Entry { return written("m", "abc", stamp, node, vec...) },
		func(stamp int, node int, vec ...int) api.Entry {
			return written("m", strings.Repeat("abd", 90), stamp, node, vec...)
		},
		func(stamp int, node int, vec ...int) api.Entry { return left("m", stamp, node, vec...) },
	}
	others := []api.Folder{{}, files("a", "z"), files("a", "b", "c", "d", "e")}
	for _, x := range kinds {
		for _, y := range kinds {
			for _, f := range others {
				low, high := x(3, 2, 3, 1, 4, 1), y(4, 1, 2, 7, 1, 8)
				checkMerge(t, "a greater Stamp", taking(f, low), []api.Entry{high}, taking(f, y(4, 1, 3, 7, 4, 8)))
				checkMerge(t, "a lower Stamp", taking(f, high), []api.Entry{low}, taking(f, y(4, 1, 3, 7, 4, 8)))
				high = y(3, 3, 2, 7, 1, 8)
				checkMerge(t, "a greater Node", taking(f, low), []api.Entry{high}, taking(f, y(3, 3, 3, 7, 4, 8)))
				checkMerge(t, "a lower Node", taking(f, high), []api.Entry{low}, taking(f, y(3, 3, 3, 7, 4, 8)))
				// Of one Stamp and Node what stands there stays.
				high = y(3, 2, 2, 7, 1, 8)
				checkMerge(t, "one Stamp and Node", taking(f, low), []api.Entry{high}, taking(f, x(3, 2, 3, 7, 4, 8)))
				checkMerge(t, "one Stamp and Node, of entries", f, []api.Entry{low, high}, taking(f, x(3, 2, 3, 7, 4, 8)))
				checkMerge(t, "one Stamp and Node, of entries", f, []api.Entry{high, low}, taking(f, y(3, 2, 3, 7, 4, 8)))
			}
		}
	}
}

// Several entries of one name are merged one behind the other.
func TestMergeOfOneNameSeveralTimes(t *testing.T) {
	a, b, c := written("m", "first", 3, 1, 1, 2, 0, 0), left("m", 5, 0, 2, 2, 0, 0), written("m", "last", 5, 2, 0, 2, 3, 0)
	want := written("m", "last", 5, 2, 2, 2, 3, 0)
	for _, f := range []api.Folder{{}, files("a", "z"), files("a", "b", "c", "y", "z"), of(left("m", 2, 3, 0, 0, 3, 0))} {
		for _, es := range [][]api.Entry{{a, b, c}, {a, c, b}, {b, a, c}, {b, c, a}, {c, a, b}, {c, b, a}, {a, a, b, b, c, c, a}} {
			checkMerge(t, "one name several times", f, es, taking(f, want))
		}
	}
	checkMerge(t, "none of them wins", of(written("m", "best", 6, 0, 0, 0, 0, 9)), []api.Entry{a, b, c}, of(written("m", "best", 6, 0, 2, 2, 3, 9)))
}

// Merging makes no step, wherever the counts are.
func TestMergeAtMaxCount(t *testing.T) {
	e := written("m", "abc", full, 3, full, full, full, full)
	checkMerge(t, "all at MaxCount", of(e), []api.Entry{e, left("m", full, 2, full, 0, full, 0)}, of(e))
	checkMerge(t, "all at MaxCount", of(left("m", full, 2, full, 0, full, 0)), []api.Entry{e}, of(e))
}

// One that may not be is refused wherever it stands, whatever it would lose
// to, and though there is no room.
func TestMergeOfWrongEntries(t *testing.T) {
	good := []api.Entry{written("a", "abc", 4, 1, 1, 2, 3, 4), written("m", "best", full, 3, 9, 9, 9, 9), left("z", 4, 1, 1, 2, 3, 4)}
	many := files("1", "2", "3", "4", "5", "6", "7").Entries
	for what, e := range wrongEntries() {
		for place := range len(good) + 1 {
			es := slices.Insert(copies(good), place, e)
			checkNoMerge(t, what, api.Folder{}, es, api.ErrFolderForm)
			checkNoMerge(t, what, files("a", "z"), es, api.ErrFolderForm)
			checkNoMerge(t, what, of(good...), es, api.ErrFolderForm)
		}
		checkNoMerge(t, what, api.Folder{}, []api.Entry{e}, api.ErrFolderForm)
		checkNoMerge(t, what+", R6", files("b", "c", "d", "e", "f", "g"), append(copies(good), e), api.ErrFolderForm)
		checkNoMerge(t, what+", R6", api.Folder{}, append(copies(many), e), api.ErrFolderForm)
		checkNoMerge(t, what+", R6", api.Folder{}, append([]api.Entry{e}, many...), api.ErrFolderForm)
	}
}

func TestMergeOfTooMany(t *testing.T) {
	six := files("b", "d", "f", "h", "j", "l")
	for _, name := range []string{"a", "c", "i", "m"} {
		for _, e := range []api.Entry{written(name, "new", 1, 0, 1, 0, 0, 0), left(name, 1, 0, 1, 0, 0, 0)} {
			checkNoMerge(t, "a seventh", six, []api.Entry{e}, api.ErrFolderFull)
			checkNoMerge(t, "a seventh behind others", six, append(copies(six.Entries), e), api.ErrFolderFull)
			checkNoMerge(t, "a seventh ahead of others", six, append([]api.Entry{e}, six.Entries...), api.ErrFolderFull)
			checkNoMerge(t, "six to one", of(e), six.Entries, api.ErrFolderFull)
			five := of(six.Entries[:5]...)
			checkMerge(t, "a sixth", five, []api.Entry{e, e, e}, taking(five, e))
			checkNoMerge(t, "two to five", five, []api.Entry{e, six.Entries[5]}, api.ErrFolderFull)
			checkMerge(t, "one to five, among others", five, append([]api.Entry{e}, five.Entries...), taking(five, e))
		}
	}
	checkNoMerge(t, "seven to none", api.Folder{}, files("a", "b", "c", "d", "e", "f", "g").Entries, api.ErrFolderFull)
	gone := of(left("1", 1, 0, 1, 0, 0, 0), left("2", 1, 0, 1, 0, 0, 0), left("3", 1, 0, 1, 0, 0, 0), left("4", 1, 0, 1, 0, 0, 0), left("5", 1, 0, 1, 0, 0, 0), left("6", 1, 0, 1, 0, 0, 0))
	checkNoMerge(t, "a seventh to six that are gone", gone, []api.Entry{left("7", 1, 0, 1, 0, 0, 0)}, api.ErrFolderFull)
}

// However many entries there are, each is taken once.
func TestMergeOfVeryMany(t *testing.T) {
	var es, unlike []api.Entry
	for i := range 20000 {
		es = append(es, left(string(rune('a'+i%6)), 1+i, i%4, i, 0, i%7, 20000-i))
		unlike = append(unlike, left(strconv.Itoa(i), 1, 0, 1, 0, 0, 0))
	}
	var want api.Folder
	for i := 19994; i < 20000; i++ {
		want = taking(want, left(string(rune('a'+i%6)), 1+i, i%4, i, 0, 6, 20000-i%6))
	}
	checkMerge(t, "20000 entries of six names", api.Folder{}, es, want)
	slices.Reverse(es)
	checkMerge(t, "20000 entries of six names, turned", api.Folder{}, es, want)
	checkNoMerge(t, "20000 entries of as many names", api.Folder{}, unlike, api.ErrFolderFull)
}

// drawn makes folders by a row of numbers, of up to five names; of one name,
// Stamp and Node there is just one text.
func drawn(next func(n int) int) func() api.Folder {
	return func() api.Folder {
		var f api.Folder
		for _, name := range []string{"a", "b", "c.d", "m", "z"} {
			stamp, node := 1+next(4), next(4)
			vec := []int{next(3), next(3), next(3), next(3)}
			switch kind := (stamp + node + len(name)) % 5; {
			case next(3) == 0:
			case kind == 0:
				f = taking(f, left(name, stamp, node, vec...))
			default:
				f = taking(f, written(name, strings.Repeat(name, kind*stamp*node), stamp, node, vec...))
			}
		}
		return f
	}
}

func merged(t *testing.T, f api.Folder, es []api.Entry) api.Folder {
	t.Helper()
	got, err := folder.Merge(f, es)
	if err != api.OK {
		t.Fatalf("P16.3: Merge(%v, %v): %d", f, es, err)
	}
	return got
}

// Merge is layer 15's, entry by entry.
func TestMergeByChance(t *testing.T) {
	draw := drawn(row(16))
	for range 500 {
		f, g := draw(), draw()
		want := f
		for _, e := range g.Entries {
			for _, x := range f.Entries {
				if x.Name == e.Name {
					e, _ = entry.Merge(x, e)
				}
			}
			want = taking(want, e)
		}
		checkMerge(t, "by chance", f, g.Entries, want)
	}
}

// T3: folders merge in any row, as often as one likes, to one.
func TestInAnyRow(t *testing.T) {
	next := row(3)
	draw := drawn(next)
	for range 150 {
		a, b, c := draw(), draw(), draw()
		one := merged(t, merged(t, a, b.Entries), c.Entries)
		es := slices.Concat(a.Entries, b.Entries, c.Entries, b.Entries)
		for range 5 {
			for i := range es {
				k := i + next(len(es)-i)
				es[i], es[k] = es[k], es[i]
			}
			if other := merged(t, api.Folder{}, es); !sameFolder(one, other) {
				t.Fatalf("T3: %v: %v and %v", es, one, other)
			}
			if other := merged(t, b, es); !sameFolder(one, other) {
				t.Fatalf("T3: %v to %v: %v and %v", es, b, one, other)
			}
		}
		for _, other := range []api.Folder{
			merged(t, a, merged(t, b, c.Entries).Entries), merged(t, merged(t, c, b.Entries), a.Entries), merged(t, merged(t, b, c.Entries), a.Entries),
			merged(t, one, one.Entries), merged(t, one, c.Entries), merged(t, b, one.Entries),
		} {
			if !sameFolder(one, other) {
				t.Fatalf("T3: %v, %v, %v: %v and %v", a, b, c, one, other)
			}
		}
	}
}

// file is what a name is expected to have.
type file struct {
	gone        bool
	text        string
	stamp, node int
	vec         [4]int
}

// model is a folder told another way.
type model map[string]file

func (m model) write(node int, name string, gone bool, text string) {
	x := m[name]
	x.gone, x.text, x.stamp, x.node = gone, text, x.stamp+1, node
	x.vec[node]++
	m[name] = x
}

func (m model) merge(other model) {
	for name, y := range other {
		x := m[name]
		vec := x.vec
		for node, count := range y.vec {
			vec[node] = max(vec[node], count)
		}
		if y.stamp > x.stamp || y.stamp == x.stamp && y.node > x.node {
			x = y
		}
		x.vec = vec
		m[name] = x
	}
}

func (m model) folder() api.Folder {
	var f api.Folder
	for name, x := range m {
		if x.gone {
			f = taking(f, left(name, x.stamp, x.node, x.vec[:]...))
		} else {
			f = taking(f, written(name, x.text, x.stamp, x.node, x.vec[:]...))
		}
	}
	return f
}

// grown tells whether nothing of a is forgotten in b.
func grown(a api.Folder, b api.Folder) bool {
	for _, x := range a.Entries {
		place := slices.IndexFunc(b.Entries, func(y api.Entry) bool { return x.Name == y.Name })
		if place < 0 {
			return false
		}
		order, _ := vector.Order(x.Vec, b.Entries[place].Vec)
		if order != api.OrderSame && order != api.OrderLess {
			return false
		}
	}
	return true
}

// Four nodes put, take out and merge, in any row.
func TestNodesByChance(t *testing.T) {
	next := row(77)
	names := []string{"a", "b", "c.d", "m", "x", "z"}
	for range 60 {
		var folders [4]api.Folder
		models := [4]model{{}, {}, {}, {}}
		for range 60 {
			node, name, other := next(4), names[next(6)], next(4)
			was, got, err := folders[node], api.Folder{}, api.OK
			switch what := next(4); what {
			case 0:
				got, err = folder.Del(was, node, name)
				if x, is := models[node][name]; !is || x.gone {
					checkErr(t, "P16.1: by chance", got, err, api.ErrFolderNone)
					continue
				}
				models[node].write(node, name, true, "")
			case 1:
				got, err = folder.Merge(was, folders[other].Entries)
				models[node].merge(models[other])
			default:
				text := strings.Repeat(name+"!", next(90))
				got, err = folder.Put(was, node, name, text[:min(len(text), most)])
				models[node].write(node, name, false, text[:min(len(text), most)])
			}
			check(t, "P16.1, P16.3: by chance", got, err, models[node].folder())
			if !grown(was, got) {
				t.Errorf("T3: %v became %v", was, got)
			}
			folders[node] = got
		}
		var want []string
		for _, name := range names {
			if x, is := models[0][name]; is && !x.gone {
				want = append(want, name)
			}
		}
		checkNames(t, folders[0], want...)
	}
}
