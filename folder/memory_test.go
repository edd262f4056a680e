package folder_test

import (
	"slices"
	"strconv"
	"strings"
	"sync"
	"testing"
	"unsafe"

	"portage/api"
	"portage/folder"
)

// lent is entries that are handed in, within a longer list, and with Vecs
// within longer ones; of all that nothing may be changed.
type lent struct {
	all, allBefore   []api.Entry
	vecs, vecsBefore [][]int
	given            []api.Entry
}

// lend keeps something ahead of each list, and spare room behind it.
func lend(es []api.Entry) lent {
	x := lent{all: []api.Entry{left("0ahead", 1, 0, 1, 0, 0, 0)}}
	for _, e := range es {
		whole := slices.Concat([]int{71, 72}, e.Vec, []int{73, 74, 75, 76, 77})
		e.Vec = whole[2 : 2+len(e.Vec)]
		x.all, x.vecs, x.vecsBefore = append(x.all, e), append(x.vecs, whole), append(x.vecsBefore, slices.Clone(whole))
	}
	for i := range 8 {
		x.all = append(x.all, left("z"+strconv.Itoa(i), 1, 0, 1, 0, 0, 0))
	}
	x.allBefore, x.given = slices.Clone(x.all), x.all[1:1+len(es)]
	return x
}

func (x lent) check(t *testing.T, what string) {
	t.Helper()
	if !slices.EqualFunc(x.all, x.allBefore, same) || !slices.EqualFunc(x.vecs, x.vecsBefore, slices.Equal[[]int]) {
		t.Fatalf("R4: %s: %v, %v became %v, %v", what, x.allBefore, x.vecsBefore, x.all, x.vecs)
	}
	for i, e := range x.given {
		if before := x.allBefore[1+i]; len(e.Vec) > 0 && &e.Vec[0] != &before.Vec[0] || cap(e.Vec) != cap(before.Vec) {
			t.Fatalf("R4: %s: another Vec", what)
		}
	}
}

// spoil turns all that a folder and its spare room hold.
func spoil(f api.Folder) {
	es := f.Entries[:cap(f.Entries)]
	for i := range es {
		vec := es[i].Vec[:cap(es[i].Vec)]
		for node := range vec {
			vec[node] = -99
		}
		es[i] = api.Entry{Name: "spoilt"}
	}
}

// call is a call that answers a folder.
type call struct {
	what string
	ask  func(f api.Folder, es []api.Entry) (api.Folder, api.Errno)
}

func put(name string, node int, text string) call {
	return call{"Put of " + name, func(f api.Folder, es []api.Entry) (api.Folder, api.Errno) { return folder.Put(f, node, name, text) }}
}

func del(name string, node int) call {
	return call{"Del of " + name, func(f api.Folder, es []api.Entry) (api.Folder, api.Errno) { return folder.Del(f, node, name) }}
}

func merge(what string, pick func(f api.Folder, es []api.Entry) (api.Folder, []api.Entry)) call {
	return call{"Merge of " + what, func(f api.Folder, es []api.Entry) (api.Folder, api.Errno) { return folder.Merge(pick(f, es)) }}
}

// calls is calls of all kinds, of which some answer an error.
func calls() []call {
	list := []call{
		merge("all", func(f api.Folder, es []api.Entry) (api.Folder, []api.Entry) { return f, es }),
		merge("its own", func(f api.Folder, es []api.Entry) (api.Folder, []api.Entry) { return f, f.Entries }),
		merge("itself, to none", func(f api.Folder, es []api.Entry) (api.Folder, []api.Entry) { return api.Folder{}, f.Entries }),
		merge("some, turned", func(f api.Folder, es []api.Entry) (api.Folder, []api.Entry) {
			return api.Folder{Entries: es}, f.Entries
		}),
		merge("some, to none", func(f api.Folder, es []api.Entry) (api.Folder, []api.Entry) { return api.Folder{}, es }),
		merge("none", func(f api.Folder, es []api.Entry) (api.Folder, []api.Entry) { return f, nil }),
	}
	for _, name := range []string{"a", "b", "m", "q", "x", "z", "M", ""} {
		list = append(list, put(name, 1, "new"), put(name, 0, ""), put(name, 3, noise(most)), put(name, 2, noise(most+1)), put(name, 4, "new"), del(name, 2), del(name, -1))
	}
	return list
}

// given is folders and entries beside them, of which some may not be.
func given() [][2][]api.Entry {
	ordinary := files("b", "m", "x").Entries
	mixed := []api.Entry{left("a", 1, 0, 1, 0, 0, 0), written("m", strings.Repeat("abc", 50), 2, 3, 0, 1, 0, 1), written("z", "", 1, 3, 0, 0, 0, 1)}
	beside := []api.Entry{written("x", "xx", full, 3, 0, 9, 0, 0), left("m", 9, 2, 9, 0, 0, 0), written("c", noise(most), 1, 1, 0, 1, 0, 0), written("x", "xx", full, 3, 0, 9, 0, 0)}
	wrong := []api.Entry{written("a", "aa", 1, 0, 1, 2, 3), written("b", "bb", 0, 0, 1, 2, 3, 4), {}}
	return [][2][]api.Entry{
		{nil, nil}, {nil, beside}, {ordinary, beside}, {mixed, beside}, {mixed, ordinary}, {ordinary, nil}, {files("a", "b", "c", "d", "m", "x").Entries, beside},
		{files("b", "a").Entries, beside}, {wrong, beside}, {ordinary, wrong}, {files("a", "b", "c", "d", "e", "f", "g").Entries, ordinary},
	}
}

func TestWhatIsHandedInStays(t *testing.T) {
	for _, two := range given() {
		f, es := lend(two[0]), lend(two[1])
		check := func(what string) {
			t.Helper()
			f.check(t, what)
			es.check(t, what)
		}
		for _, c := range calls() {
			got, _ := c.ask(api.Folder{Entries: f.given}, es.given)
			check(c.what)
			more := append(slices.Clip(got.Entries), api.Entry{})
			more[0].Stamp = -99
			for i := range got.Entries {
				got.Entries[i].Vec = append(got.Entries[i].Vec, -99)
			}
			spoil(got)
			check(c.what + ", its answer changed")
		}
		for _, name := range []string{"a", "b", "m", "q", "x", "z", "M", ""} {
			folder.Text(api.Folder{Entries: f.given}, name)
			check("Text of " + name)
		}
		names := folder.Names(api.Folder{Entries: f.given})
		check("Names")
		clear(names[:cap(names)])
		check("Names, its answer changed")
	}
}

// A change of what was handed in, or of another answer, changes no answer.
func TestAnswersStandByThemselves(t *testing.T) {
	answers := 0
	for _, two := range given() {
		for _, c := range calls() {
			f, es := copies(two[0]), copies(two[1])
			want, err := c.ask(api.Folder{Entries: copies(two[0])}, copies(two[1]))
			if err != api.OK {
				continue
			}
			answers++
			want.Entries = copies(want.Entries)
			got, _ := c.ask(api.Folder{Entries: f}, es)
			other, _ := c.ask(api.Folder{Entries: f}, es)
			names := folder.Names(got)
			spoil(other)
			if !slices.EqualFunc(f, two[0], same) || !slices.EqualFunc(es, two[1], same) {
				t.Fatalf("R4: %s: a change of an answer came through: %v, %v", c.what, f, es)
			}
			spoil(api.Folder{Entries: f})
			spoil(api.Folder{Entries: es})
			if !sameFolder(got, want) {
				t.Fatalf("R4: %s: %v, want %v", c.what, got, want)
			}
			again := slices.Clone(names)
			clear(folder.Names(got))
			if !slices.Equal(names, again) {
				t.Fatalf("R4: %s: Names: %q, want %q", c.what, names, again)
			}
		}
	}
	if answers < 50 {
		t.Errorf("the test is wrong: %d answers", answers)
	}
}

// Of one answer each Vec stands by itself, also where one Vec was handed in
// for all entries.
func TestListsOfOneAnswer(t *testing.T) {
	list := []int{5, 1, 7, 2, 9, 3}
	before := slices.Clone(list)
	f := files("b", "m", "x")
	es := append(files("c", "m", "z").Entries, left("x", 9, 3, 9, 9, 9, 9))
	for i := range f.Entries {
		f.Entries[i].Vec = list[:4]
	}
	for i := range es {
		es[i].Vec = list[i%2:][:4]
	}
	for _, c := range calls() {
		got, err := c.ask(f, es)
		if err != api.OK {
			continue
		}
		for i, e := range got.Entries {
			want := copies(got.Entries)
			vec := e.Vec[:cap(e.Vec)]
			for node := range vec {
				vec[node] = -99
			}
			want[i].Vec = e.Vec
			if !slices.EqualFunc(got.Entries, want, same) {
				t.Fatalf("R4: %s: two lists of one answer share memory: %v, want %v", c.what, got.Entries, want)
			}
		}
		if !slices.Equal(list, before) {
			t.Fatalf("R4: %s: %v became %v", c.what, before, list)
		}
	}
}

// within tells whether a stands in the memory of b.
func within(a string, b string) bool {
	if a == "" || b == "" {
		return false
	}
	begin, at := uintptr(unsafe.Pointer(unsafe.StringData(b))), uintptr(unsafe.Pointer(unsafe.StringData(a)))
	return begin <= at && at < begin+uintptr(len(b))
}

// textsOf is all texts of some entries.
func textsOf(es []api.Entry) []string {
	var texts []string
	for _, e := range es {
		texts = append(texts, e.Name, e.Packed)
	}
	return texts
}

// checkNew asks whether none of these texts stands in the memory of others.
func checkNew(t *testing.T, what string, texts []string, others []string) {
	t.Helper()
	for _, a := range texts {
		for _, b := range others {
			if within(a, b) {
				t.Fatalf("R4: %s: %q shares memory with %q", what, a, b)
			}
		}
	}
}

// An answer does not keep what is handed in, nor what that is a piece of.
func TestTextsAreNew(t *testing.T) {
	whole := strings.Repeat("abcdefgh", 9)
	if !within(whole[9:10], whole) {
		t.Fatal("the test is wrong")
	}
	name, other, text := whole[8:11], whole[17:20], noise(most)
	f := files("0", "m", "z")
	f = taking(taking(f, written(other, text, 3, 1, 0, 1, 0, 0)), written("gg", strings.Repeat("aab", 60), 3, 1, 0, 1, 0, 0))
	es := append(files("m", "q", "z").Entries, left("0", 9, 0, 1, 1, 1, 1), written("0", noise(50), 10, 0, 1, 1, 1, 1))
	olds := slices.Concat(textsOf(f.Entries), textsOf(es), []string{whole, text})
	list := append(calls(), put(name, 0, text), put(name, 0, whole), put("m", 0, whole), put(other, 1, text), put(other, 1, whole), del(other, 2))
	for _, c := range list {
		first, _ := c.ask(f, es)
		second, _ := c.ask(f, es)
		checkNew(t, c.what, textsOf(first.Entries), olds)
		checkNew(t, c.what, textsOf(first.Entries), textsOf(second.Entries))
	}
	for _, e := range f.Entries {
		s, _ := folder.Text(f, e.Name)
		again, _ := folder.Text(f, e.Name)
		checkNew(t, "Text", []string{s}, append(olds, again))
	}
	names := folder.Names(f)
	checkNew(t, "Names", names, olds)
	checkNew(t, "Names", names, folder.Names(f))
}

// What a call answers does not hang on the calls ahead of it, refused ones
// neither, nor on where things stand in memory.
func TestNothingIsKept(t *testing.T) {
	var firsts []api.Folder
	var errs []api.Errno
	for round := range 3 {
		at := 0
		for _, two := range given() {
			for _, c := range calls() {
				f, es := lend(two[0]), lend(two[1])
				got, err := c.ask(api.Folder{Entries: f.given}, es.given)
				if round == 0 {
					firsts, errs = append(firsts, got), append(errs, err)
				}
				if !sameFolder(got, firsts[at]) || err != errs[at] {
					t.Fatalf("R5: %s: %v, %d, want %v, %d", c.what, got, err, firsts[at], errs[at])
				}
				at++
			}
		}
	}
}

func TestFromSeveralGoroutines(t *testing.T) {
	f := files("b", "m", "x")
	es := append(files("c", "m").Entries, left("x", 9, 3, 9, 9, 9, 9))
	want, _ := folder.Merge(f, es)
	wrong := of(append(copies(f.Entries), f.Entries[0])...)
	var all sync.WaitGroup
	for node := range 8 {
		all.Go(func() {
			mine := "n" + strconv.Itoa(node)
			for range 30 {
				checkPut(t, f, node%4, mine, mine, with(written(mine, mine, 1, node%4, 0, 0, 0, 0), func(e *api.Entry) { e.Vec[node%4] = 1 }))
				checkDel(t, f, node%4, "m", stepped(f.Entries[1], node%4))
				checkMerge(t, "from several goroutines", f, es, want)
				checkNoMerge(t, "from several goroutines", wrong, es, api.ErrFolderForm)
				checkNames(t, f, "b", "m", "x")
			}
		})
	}
	all.Wait()
}
