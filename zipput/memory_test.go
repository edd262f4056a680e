package zipput_test

import (
	"slices"
	"strconv"
	"strings"
	"sync"
	"testing"

	"portage/api"
	"portage/zipput"
)

// same tells whether a and b are alike in each field.
func same(a api.Entry, b api.Entry) bool {
	return a.Name == b.Name && a.Gone == b.Gone && slices.Equal(a.Vec, b.Vec) &&
		a.Stamp == b.Stamp && a.Node == b.Node && a.Method == b.Method &&
		a.Packed == b.Packed && a.Size == b.Size && a.Crc == b.Crc
}

// roomy is a folder with the entries of f, and beside its entries, and each
// Vec, spare room with something in it. All of it is told too.
func roomy(f api.Folder) (api.Folder, []api.Entry, [][]int) {
	var all []api.Entry
	var vecs [][]int
	for _, e := range f.Entries {
		whole := slices.Concat([]int{71, 72}, e.Vec, []int{73, 74, 75, 76, 77})
		e.Vec = whole[2 : 2+len(e.Vec)]
		all, vecs = append(all, e), append(vecs, whole)
	}
	for i := range 8 {
		all = append(all, stored("spare"+strconv.Itoa(i), "room"))
	}
	return api.Folder{Entries: all[:len(f.Entries)]}, all, vecs
}

// cloned is copies of entries, which share no Vec with them.
func cloned(es []api.Entry) []api.Entry {
	var out []api.Entry
	for _, e := range es {
		out = append(out, with(e, func(e *api.Entry) {}))
	}
	return out
}

func TestWhatIsHandedInStays(t *testing.T) {
	folders := []api.Folder{
		{}, named("a"), named("a", "b", "c", "d", "e", "f"), named("a", "b", "c", "d", "e", "f", "g"),
		named("b", "a"), named("c", "b", "a"), named("a", "a"), named("a", "", "b"), of(api.Entry{}, gone("a")),
		of(stored("a", text(300)), deflated("b", text(300), 0), gone("c")),
		of(stored("a", text(301)), gone("c")),
		of(with(stored("a", "x"), func(e *api.Entry) { e.Vec = []int{1, 2, 3} }), gone("c")),
		of(with(stored("a", "x"), func(e *api.Entry) { e.Vec[3] = full + 1 }), gone("c")),
		of(gone("a"), with(stored("b", "x"), func(e *api.Entry) { e.Size, e.Crc = 5, -1 })),
	}
	for _, plain := range folders {
		f, all, vecs := roomy(plain)
		allAhead, header := cloned(all), slices.Clone(f.Entries)
		var vecsAhead [][]int
		for _, v := range vecs {
			vecsAhead = append(vecsAhead, slices.Clone(v))
		}
		for what, call := range map[string]func(){
			"May":  func() { zipput.May(f) },
			"Size": func() { zipput.Size(f) },
			"Put":  func() { zipput.Put(f) },
		} {
			call()
			if len(f.Entries) != len(header) || !slices.EqualFunc(all, allAhead, same) || !slices.EqualFunc(vecs, vecsAhead, slices.Equal[[]int]) {
				t.Fatalf("R4: %s of %d entries: %v, %v became %v, %v", what, len(header), allAhead, vecsAhead, all, vecs)
			}
			for i, e := range f.Entries {
				if len(e.Vec) > 0 && &e.Vec[0] != &header[i].Vec[0] || cap(e.Vec) != cap(header[i].Vec) {
					t.Fatalf("R4: %s: another Vec", what)
				}
			}
		}
	}
}

// What was told stays, whatever becomes of the folder behind the call.
func TestAnswersStandByThemselves(t *testing.T) {
	next := row(4)
	for range 50 {
		f := folder(next)
		want := written(f)
		s, _ := zipput.Put(f)
		again, _ := zipput.Put(f)
		for i := range f.Entries {
			clear(f.Entries[i].Vec)
			f.Entries[i] = api.Entry{}
		}
		if s != want || again != want {
			t.Fatalf("R4: %q, want %q", s, want)
		}
	}
}

// An answer hangs on the arguments alone: not on what was asked ahead.
func TestNothingIsKept(t *testing.T) {
	for range 3 {
		checkTold(t, "one", named("a"))
		checkNone(t, "wrong", named("a", "a"))
		checkTold(t, "six", named("a", "b", "c", "d", "e", "f"))
		checkTold(t, "none", api.Folder{})
		checkNone(t, "too many", named("a", "b", "c", "d", "e", "f", "g"))
		checkTold(t, "two", named("b", "c"))
	}
	// Where each stands in memory, and what room is behind it, turns nothing.
	f, _, _ := roomy(named("a", "b", "c"))
	checkTold(t, "with spare room", f)
	shared := []int{1, 2, 3, 4}
	f = named("a", "b", "c")
	for i := range f.Entries {
		f.Entries[i].Vec = shared
		f.Entries[i].Name = strings.Clone(f.Entries[i].Name)
	}
	checkTold(t, "one Vec for all", f)
}

func TestFromSeveralGoroutines(t *testing.T) {
	shared := named("a", "b", "c", "d", "e", "f")
	wrong := named("b", "a")
	var all sync.WaitGroup
	for node := range 8 {
		all.Go(func() {
			mine := named("n" + strconv.Itoa(node))
			for range 50 {
				checkTold(t, "mine", mine)
				checkTold(t, "shared", shared)
				checkNone(t, "shared, wrong", wrong)
			}
		})
	}
	all.Wait()
}
