package extra_test

import (
	"slices"
	"strings"
	"sync"
	"testing"

	"portage/api"
	"portage/extra"
)

// spoil turns all that a list and its spare room hold.
func spoil(v []int) {
	v = v[:cap(v)]
	for i := range v {
		v[i] = -99
	}
}

func TestWhatIsHandedInStays(t *testing.T) {
	for _, vec := range [][]int{
		{3, 1, 4, 1}, {0, 0, 0, 0}, {full, full, full, full},
		nil, {3, 1, 4}, {3, 1, 4, 1, 5}, {3, 1, 4, -1}, {full + 1, 1, 4, 1},
	} {
		for _, stamp := range []int{0, 1, full, full + 1} {
			whole := slices.Concat([]int{71, 72}, vec, []int{73, 74, 75, 76, 77})
			before := slices.Clone(whole)
			e := api.Entry{Name: "a", Gone: true, Vec: whole[2 : 2+len(vec)], Stamp: stamp, Node: 3, Method: 8, Packed: "p", Size: 6, Crc: 7}
			kept := e
			s, _ := extra.Put(e)
			if !slices.Equal(whole, before) || !equal(e, kept) || cap(e.Vec) != cap(kept.Vec) {
				t.Fatalf("R4: %v became %v, %v", before, whole, e)
			}
			got, _ := extra.Get(s)
			spoil(got.Vec)
			if !slices.Equal(whole, before) {
				t.Fatalf("R4: a change of Get's answer came through: %v", whole)
			}
		}
	}
}

// A change of what was handed in, or of another answer, changes no answer.
func TestAnswersStandByThemselves(t *testing.T) {
	for _, e := range heads() {
		want := head(e.Vec, e.Stamp, e.Node, e.Gone)
		s, _ := extra.Put(e)
		first, _ := extra.Get(s)
		second, _ := extra.Get(s)
		spoil(first.Vec)
		spoil(e.Vec)
		if s != written(want) || !equal(second, want) {
			t.Fatalf("R4: %q, %v, want %v", s, second, want)
		}
		checkGet(t, s, want)
		if len(first.Vec) != 4 || first.Vec == nil {
			t.Fatalf("P12.2: %v", first)
		}
	}
}

// What is read out of a longer text hangs on the piece alone.
func TestPiecesOfALongerText(t *testing.T) {
	long := strings.Repeat("pP\x16\x00", 9) + written(plain()) + strings.Repeat("\x00", 30)
	checkGet(t, long[36:62], plain())
	checkNoGet(t, "one byte on", long[37:63])
	checkNoGet(t, "one byte ahead", long[35:61])
}

func TestNothingIsKept(t *testing.T) {
	for range 3 {
		checkBoth(t, plain())
		checkNoPut(t, "nothing", api.Entry{})
		checkNoGet(t, "nothing", "")
		checkNoGet(t, "half of one", written(plain())[:13])
		checkNoGet(t, "the other half", written(plain())[13:])
	}
}

func TestFromSeveralGoroutines(t *testing.T) {
	var all sync.WaitGroup
	shared := plain()
	for node := range 8 {
		all.Go(func() {
			mine := head([]int{node, 2, node * 1000, full}, 1+node, node%4, node%2 == 0)
			for range 200 {
				checkBoth(t, mine)
				checkBoth(t, shared)
				checkNoGet(t, "nothing", "")
			}
		})
	}
	all.Wait()
}
