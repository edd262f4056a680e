package vector_test

import (
	"slices"
	"sync"
	"testing"

	"portage/api"
	"portage/vector"
)

// lent is a list that is handed in, within a longer one of which nothing may
// be changed.
type lent struct {
	whole  []int
	before []int
	given  []int
}

// lend keeps something ahead of v, and spare room behind it.
func lend(v []int) lent {
	whole := slices.Concat([]int{71, 72}, v, []int{73, 74, 75, 76, 77})
	return lent{whole: whole, before: slices.Clone(whole), given: whole[2 : 2+len(v)]}
}

func (x lent) check(t *testing.T, what string) {
	t.Helper()
	if !slices.Equal(x.whole, x.before) {
		t.Fatalf("R4: %s: %v became %v", what, x.before, x.whole)
	}
}

// spoil turns all that a list and its spare room hold.
func spoil(v []int) {
	v = v[:cap(v)]
	for i := range v {
		v[i] = -99
	}
}

// pairs is vectors in each order, and lists that may not be.
func pairs() [][2][]int {
	a := []int{3, 1, 4, 1}
	return [][2][]int{
		{a, a}, {a, {3, 1, 4, 2}}, {a, {3, 1, 3, 1}}, {a, {1, 4, 1, 3}}, {a, {0, 0, 0, 0}}, {a, {full, full, full, full}},
		{a, nil}, {a, {3, 1, 4}}, {a, {3, 1, 4, 1, 5}}, {a, {3, 1, 4, -1}}, {a, {full + 1, 1, 4, 1}},
		{nil, nil}, {{3, 1, 4}, {3, 1, 4}}, {{-1, 0, 0, 0}, {0, 0, 0, full + 1}},
	}
}

func TestWhatIsHandedInStays(t *testing.T) {
	for _, p := range pairs() {
		for _, swap := range []bool{false, true} {
			a, b := lend(p[0]), lend(p[1])
			if swap {
				a, b = b, a
			}
			check := func(what string) {
				t.Helper()
				a.check(t, what)
				b.check(t, what)
			}
			vector.May(a.given)
			check("May")
			vector.Order(a.given, b.given)
			check("Order")
			both, _ := vector.Join(a.given, b.given)
			check("Join")
			spoil(both)
			check("Join, its answer changed")
			for _, node := range []int{0, 1, 2, 3, 4, -1} {
				next, _ := vector.Step(a.given, node)
				check("Step")
				spoil(next)
				check("Step, its answer changed")
			}
		}
	}
}

// A change of what was handed in, or of another answer, changes no answer.
func TestAnswersStandByThemselves(t *testing.T) {
	for _, p := range pairs()[:6] {
		a, b := slices.Clone(p[0]), slices.Clone(p[1])
		want, _ := vector.Join(p[0], p[1])
		first, e := vector.Join(a, b)
		second, f := vector.Join(a, b)
		step, g := vector.Step(a, 2)
		again, h := vector.Step(a, 2)
		if e != api.OK || f != api.OK || g != api.OK || h != api.OK {
			t.Fatalf("P11.2: %v, %v: %d, %d, %d, %d", a, b, e, f, g, h)
		}
		spoil(first)
		spoil(step)
		if !slices.Equal(a, p[0]) || !slices.Equal(b, p[1]) {
			t.Fatalf("R4: %v, %v: an answer's change came through", p[0], p[1])
		}
		spoil(a)
		spoil(b)
		if !slices.Equal(second, want) || !slices.Equal(again, with(p[0], 2, p[0][2]+1)) {
			t.Fatalf("R4: %v, %v: %v, %v", p[0], p[1], second, again)
		}
	}
}

// One list may be handed in twice, and two may lie within one.
func TestListsThatShareMemory(t *testing.T) {
	row := []int{5, 1, 7, 2, 9, 3}
	before := slices.Clone(row)
	checkOrder(t, row[:4], row[:4], api.OrderSame)
	checkJoin(t, row[:4], row[:4], []int{5, 1, 7, 2})
	checkOrder(t, row[:4], row[1:5], api.OrderApart)
	checkJoin(t, row[:4], row[1:5], []int{5, 7, 7, 9})
	checkOrder(t, row[:4], row[2:], api.OrderLess)
	checkJoin(t, row[:4], row[2:], []int{7, 2, 9, 3})
	both, _ := vector.Join(row[:4], row[:4])
	spoil(both)
	if !slices.Equal(row, before) {
		t.Errorf("R4: %v", row)
	}
}

// What a call answers does not hang on the calls ahead of it, refused ones
// neither.
func TestNothingIsKept(t *testing.T) {
	for range 3 {
		checkJoin(t, []int{1, 0, 0, 0}, []int{0, 2, 0, 0}, []int{1, 2, 0, 0})
		checkNoStep(t, []int{full, 0, 0, 0}, 0, api.ErrVectorFull)
		checkStep(t, []int{0, 0, 0, 0}, 0, []int{1, 0, 0, 0})
		checkNoStep(t, nil, 0, api.ErrVectorForm)
		checkOrder(t, []int{0, 0, 0, 0}, []int{0, 0, 0, 0}, api.OrderSame)
	}
}

func TestFromSeveralGoroutines(t *testing.T) {
	a, b := []int{1, 2, 3, 4}, []int{4, 3, 2, 1}
	var all sync.WaitGroup
	for node := range 8 {
		all.Go(func() {
			for range 200 {
				checkMay(t, a, true)
				checkOrder(t, a, b, api.OrderApart)
				checkJoin(t, a, b, []int{4, 3, 3, 4})
				checkStep(t, a, node%4, with(a, node%4, a[node%4]+1))
			}
		})
	}
	all.Wait()
}
