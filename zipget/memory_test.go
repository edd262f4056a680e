package zipget_test

import (
	"slices"
	"strconv"
	"strings"
	"sync"
	"testing"
	"unsafe"

	"portage/api"
	"portage/zipget"
)

// spoil turns all that a folder and its spare room hold.
func spoil(f api.Folder) {
	es := f.Entries[:cap(f.Entries)]
	for i := range es {
		v := es[i].Vec[:cap(es[i].Vec)]
		for node := range v {
			v[node] = -99
		}
		es[i] = api.Entry{Name: "spoilt", Stamp: -99}
	}
}

func TestAnswersShareNothing(t *testing.T) {
	for _, f := range append(some(), named("a", "b", "c", "d"), named("a", "b", "c", "d", "e")) {
		s := written(f)
		first, _ := zipget.Get(s)
		second, _ := zipget.Get(s)
		spoil(first)
		if !slices.EqualFunc(second.Entries, f.Entries, same) {
			t.Fatalf("R4: a change of one answer came through to another: %v, want %v", second, f)
		}
		checkText(t, "behind a change of an answer", s, f)
	}
}

func TestEntriesShareNoVec(t *testing.T) {
	for _, f := range some() {
		s := written(f)
		for i := range f.Entries {
			got, _ := zipget.Get(s)
			v := got.Entries[i].Vec
			for range 9 {
				v = append(v, -99)
			}
			v = got.Entries[i].Vec
			v = v[:cap(v)]
			for node := range v {
				v[node] = -99
			}
			for k, e := range got.Entries {
				if k != i && !same(e, f.Entries[k]) {
					t.Errorf("R4: a change of entry %d's Vec came through to %d: %v", i, k, e)
				}
			}
		}
	}
}

// within tells whether a stands in the memory of b.
func within(a string, b string) bool {
	if a == "" || b == "" {
		return false
	}
	begin, at := uintptr(unsafe.Pointer(unsafe.StringData(b))), uintptr(unsafe.Pointer(unsafe.StringData(a)))
	return begin <= at && at < begin+uintptr(len(b))
}

// An entry that is kept does not keep the archive that it was read from.
func TestTextsAreNew(t *testing.T) {
	for _, f := range some() {
		s := written(f)
		if len(s) > 22 && !within(s[5:9], s) {
			t.Fatal("the test is wrong")
		}
		got, _ := zipget.Get(s)
		again, _ := zipget.Get(s)
		for i, e := range got.Entries {
			if within(e.Name, s) || within(e.Packed, s) {
				t.Errorf("R4: %q of %d bytes shares memory with what was read", e.Name, len(s))
			}
			if other := again.Entries[i]; within(e.Name, other.Name) || within(e.Packed, other.Packed) {
				t.Errorf("R4: %q shares memory with another answer", e.Name)
			}
		}
	}
}

// An answer hangs on the argument alone: not on what was asked ahead, nor on
// what stands around it.
func TestNothingIsKept(t *testing.T) {
	one, six := named("a"), named("a", "b", "c", "d", "e", "f")
	for range 3 {
		checkText(t, "six", written(six), six)
		checkNone(t, "half of one", written(one)[:60])
		checkNone(t, "the other half", written(one)[60:])
		checkText(t, "one", written(one), one)
		checkNone(t, "nothing", "")
		checkText(t, "none", endOfNone, api.Folder{})
	}
	s := written(six)
	long := strings.Repeat("PK\x03\x04", 9) + s + endOfNone + strings.Repeat("\x00", 5000)
	checkText(t, "a piece of a longer text", long[36:36+len(s)], six)
	checkNone(t, "one byte on", long[37:37+len(s)])
	checkNone(t, "one byte ahead", long[35:35+len(s)])
}

func TestFromSeveralGoroutines(t *testing.T) {
	shared := named("a", "b", "c", "d", "e", "f")
	s := written(shared)
	var all sync.WaitGroup
	for node := range 8 {
		all.Go(func() {
			mine := named("n" + strconv.Itoa(node))
			for range 50 {
				checkText(t, "mine", written(mine), mine)
				checkText(t, "shared", s, shared)
				checkNone(t, "shared, cut", s[:len(s)-1-node])
			}
		})
	}
	all.Wait()
}
