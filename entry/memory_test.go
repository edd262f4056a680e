package entry_test

import (
	"slices"
	"strings"
	"sync"
	"testing"
	"unsafe"

	"portage/api"
	"portage/entry"
)

// lent is an entry that is handed in, whose Vec stands within a longer list of
// which nothing may be changed.
type lent struct {
	whole  []int
	before []int
	given  api.Entry
	header api.Entry
}

// lend keeps something ahead of the Vec of e, and spare room behind it.
func lend(e api.Entry) lent {
	whole := slices.Concat([]int{71, 72}, e.Vec, []int{73, 74, 75, 76, 77})
	e.Vec = whole[2 : 2+len(e.Vec)]
	return lent{whole: whole, before: slices.Clone(whole), given: e, header: with(e, func(e *api.Entry) {})}
}

func (x lent) check(t *testing.T, what string) {
	t.Helper()
	if !slices.Equal(x.whole, x.before) || !same(x.given, x.header) {
		t.Fatalf("R4: %s: %v, %v became %v, %v", what, x.header, x.before, x.given, x.whole)
	}
}

// spoil turns all that a list and its spare room hold.
func spoil(v []int) {
	v = v[:cap(v)]
	for i := range v {
		v[i] = -99
	}
}

// pairs is entries of which either wins, and some that may not be.
func pairs() [][2]api.Entry {
	a, b := ranked(packed(strings.Repeat("abc", 9)), 3, 1), knows(ranked(stored("abc"), 3, 2), 2, 7, 1, 8)
	c := ranked(gone(), 9, 0)
	return [][2]api.Entry{
		{a, b}, {a, a}, {a, c}, {b, c}, {c, c}, {ranked(a, 3, 2), b}, {a, ranked(packed(noise(most)), 1, 1)},
		{a, with(b, func(e *api.Entry) { e.Name = "n" })}, {a, api.Entry{}},
		{a, knows(b, 1, 2, 3)}, {a, knows(b, 1, 2, 3, 4, 5)}, {a, knows(b, 1, 2, 3, full+1)},
		{a, with(b, func(e *api.Entry) { e.Crc++ })}, {b, with(a, func(e *api.Entry) { e.Packed += "x" })},
	}
}

func TestWhatIsHandedInStays(t *testing.T) {
	for _, p := range pairs() {
		for _, swap := range []bool{false, true} {
			a, b := lend(p[0]), lend(p[1])
			if swap {
				a, b = b, a
			}
			check := func(what string) {
				t.Helper()
				a.check(t, what)
				b.check(t, what)
			}
			entry.May(a.given)
			check("May")
			entry.Text(a.given)
			check("Text")
			got, _ := entry.Merge(a.given, b.given)
			check("Merge")
			spoil(got.Vec)
			check("Merge, its answer changed")
			for range 9 {
				got.Vec = append(got.Vec, -99)
			}
			check("Merge, more put behind its answer")
			got, _ = entry.Merge(a.given, a.given)
			spoil(got.Vec)
			check("Merge of one with itself, its answer changed")
		}
	}
}

// A change of what was handed in, or of another answer, changes no answer.
func TestAnswersStandByThemselves(t *testing.T) {
	for _, p := range pairs()[:7] {
		a, b := with(p[0], func(e *api.Entry) {}), with(p[1], func(e *api.Entry) {})
		want, err := entry.Merge(p[0], p[1])
		want = with(want, func(e *api.Entry) {})
		first, e := entry.Merge(a, b)
		second, f := entry.Merge(a, b)
		if err != api.OK || e != api.OK || f != api.OK {
			t.Fatalf("P15.2: %v, %v: %d, %d, %d", a, b, err, e, f)
		}
		spoil(first.Vec)
		if !same(a, p[0]) || !same(b, p[1]) {
			t.Fatalf("R4: an answer's change came through: %v, %v", a, b)
		}
		spoil(a.Vec)
		spoil(b.Vec)
		if !same(second, want) {
			t.Fatalf("R4: %v, want %v", second, want)
		}
	}
}

// Two Vecs may lie within one list, or be one.
func TestVecsThatShareMemory(t *testing.T) {
	list := []int{5, 1, 7, 2, 9, 3}
	before := slices.Clone(list)
	low, high := ranked(stored("low"), 1, 0), ranked(stored("high"), 2, 0)
	low.Vec, high.Vec = list[:4], list[1:5]
	checkTwo(t, "Vecs within one list", low, high, knows(high, 5, 7, 7, 9))
	checkTwo(t, "Vecs within one list", high, low, knows(high, 5, 7, 7, 9))
	high.Vec = low.Vec
	checkTwo(t, "one Vec", low, high, knows(high, 5, 1, 7, 2))
	got, _ := entry.Merge(low, high)
	spoil(got.Vec)
	if !slices.Equal(list, before) {
		t.Errorf("R4: %v became %v", before, list)
	}
}

// within tells whether a stands in the memory of b.
func within(a string, b string) bool {
	if a == "" || b == "" {
		return false
	}
	begin, at := uintptr(unsafe.Pointer(unsafe.StringData(b))), uintptr(unsafe.Pointer(unsafe.StringData(a)))
	return begin <= at && at < begin+uintptr(len(b))
}

// An answer does not keep what an entry's texts are pieces of.
func TestTextsAreNew(t *testing.T) {
	for _, e := range kinds() {
		e.Name = "12345678"
		if !within(e.Name[2:3], e.Name) {
			t.Fatal("the test is wrong")
		}
		other := ranked(e, e.Stamp, e.Node)
		other.Name = strings.Clone(e.Name)
		for range 2 {
			first, _ := entry.Merge(e, other)
			second, _ := entry.Merge(other, e)
			for _, x := range []api.Entry{e, other, second} {
				if within(first.Name, x.Name) || within(first.Packed, x.Packed) {
					t.Errorf("R4: Merge of %v shares memory", e)
				}
			}
			s, _ := entry.Text(e)
			again, _ := entry.Text(e)
			if within(s, e.Packed) || within(s, again) {
				t.Errorf("R4: Text of %v shares memory", e)
			}
		}
	}
}

// What a call answers does not hang on the calls ahead of it, refused ones
// neither.
func TestNothingIsKept(t *testing.T) {
	long := strings.Repeat("portage ", 30)
	a, b := ranked(packed(long), 4, 0), ranked(gone(), 4, 1)
	for range 3 {
		checkText(t, "a text", a, long)
		checkNone(t, "no Vec", knows(a))
		checkGone(t, "gone", b)
		checkTwo(t, "two", a, b, knows(b, join(t, a.Vec, b.Vec)...))
		checkNone(t, "a wrong sum", with(a, func(e *api.Entry) { e.Crc++ }))
		checkText(t, "the empty text", packed(""), "")
		checkNone(t, "nothing", api.Entry{})
	}
}

func TestFromSeveralGoroutines(t *testing.T) {
	long := strings.Repeat("portage ", 30)
	a, b := ranked(packed(long), 4, 0), ranked(gone(), 4, 1)
	want := knows(b, join(t, a.Vec, b.Vec)...)
	var all sync.WaitGroup
	for node := range 8 {
		all.Go(func() {
			mine := knows(a, node, 9, node, 9)
			for range 50 {
				checkText(t, "shared", a, long)
				checkText(t, "mine", mine, long)
				checkGone(t, "gone", b)
				checkTwo(t, "two", a, b, want)
				checkNone(t, "no Vec", knows(mine))
			}
		})
	}
	all.Wait()
}
