package vector_test

import (
	"math"
	"slices"
	"testing"

	"portage/api"
	"portage/vector"
)

// strangers is numbers of no node.
func strangers() []int {
	return []int{
		-1, -2, -3, -4, -5, 4, 5, 7, 8, 255, 256, 259, full, 65536, 1 << 32, 1<<32 + 1, 1 << 62,
		-1 << 32, -1<<32 + 2, math.MaxInt, math.MinInt, math.MaxInt32, math.MinInt32,
	}
}

func checkStep(t *testing.T, v []int, node int, want []int) {
	t.Helper()
	for range 2 {
		if got, e := vector.Step(v, node); !slices.Equal(got, want) || e != api.OK {
			t.Errorf("P11.2: Step(%v, %d): %v, %d, want %v", v, node, got, e, want)
		}
	}
}

func checkNoStep(t *testing.T, v []int, node int, want api.Errno) {
	t.Helper()
	if got, e := vector.Step(v, node); len(got) != 0 || e != want {
		t.Errorf("P11.2: Step of %d counts, %d: %v, %d, want %d", len(v), node, got, e, want)
	}
}

func TestStep(t *testing.T) {
	checkStep(t, []int{0, 0, 0, 0}, 0, []int{1, 0, 0, 0})
	checkStep(t, []int{0, 0, 0, 0}, 1, []int{0, 1, 0, 0})
	checkStep(t, []int{0, 0, 0, 0}, 2, []int{0, 0, 1, 0})
	checkStep(t, []int{0, 0, 0, 0}, 3, []int{0, 0, 0, 1})
	checkStep(t, []int{1, 2, 3, 4}, 0, []int{2, 2, 3, 4})
	checkStep(t, []int{1, 2, 3, 4}, 3, []int{1, 2, 3, 5})
	checkStep(t, []int{255, 65535, 0, 9}, 0, []int{256, 65535, 0, 9})
	checkStep(t, []int{255, 65535, 0, 9}, 1, []int{255, 65536, 0, 9})
	for node := range 4 {
		last := with([]int{6, 6, 6, 6}, node, full-1)
		checkStep(t, last, node, with(last, node, full))
		// Another node's count may be as high as counts are.
		high := with([]int{full, full, full, full}, node, 0)
		checkStep(t, high, node, with(high, node, 1))
	}
}

func TestStepOfEach(t *testing.T) {
	for _, v := range grid() {
		for node, count := range v {
			if count == full {
				checkNoStep(t, v, node, api.ErrVectorFull)
				continue
			}
			checkStep(t, v, node, with(v, node, count+1))
			next, _ := vector.Step(v, node)
			if order, e := vector.Order(next, v); order != api.OrderMore || e != api.OK || !vector.May(next) {
				t.Errorf("T3: Step(%v, %d) is not more: %v", v, node, next)
			}
		}
	}
}

// Steps of several nodes come to one, whichever is ahead.
func TestStepsInAnyRow(t *testing.T) {
	for a := range 4 {
		for b := range 4 {
			v := []int{3, 0, 7, 1}
			one, _ := vector.Step(v, a)
			other, _ := vector.Step(v, b)
			ab, e := vector.Step(one, b)
			ba, f := vector.Step(other, a)
			if e != api.OK || f != api.OK || !slices.Equal(ab, ba) {
				t.Errorf("P11.2: %d, %d: %v, %d; %v, %d", a, b, ab, e, ba, f)
			}
			want := api.OrderApart
			if a == b {
				want = api.OrderSame
			}
			checkOrder(t, one, other, want)
		}
	}
}

func TestStepUpToMaxCount(t *testing.T) {
	v := []int{0, full - 5, 0, 0}
	for count := full - 4; count <= full; count++ {
		next, e := vector.Step(v, 1)
		if e != api.OK || !slices.Equal(next, []int{0, count, 0, 0}) {
			t.Fatalf("P11.2: Step(%v, 1): %v, %d", v, next, e)
		}
		v = next
	}
	checkNoStep(t, v, 1, api.ErrVectorFull)
}

func TestStepOfAFullNode(t *testing.T) {
	for node := range 4 {
		checkNoStep(t, with([]int{0, 0, 0, 0}, node, full), node, api.ErrVectorFull)
		checkNoStep(t, with([]int{1, 2, 3, 4}, node, full), node, api.ErrVectorFull)
		checkNoStep(t, []int{full, full, full, full}, node, api.ErrVectorFull)
	}
}

func TestStepOfNoNode(t *testing.T) {
	for _, node := range strangers() {
		for _, v := range [][]int{
			{0, 0, 0, 0}, {1, 2, 3, 4}, make([]int, 4, 600),
			// A full one: what is wrong with the node is told ahead.
			{full, full, full, full},
		} {
			checkNoStep(t, v, node, api.ErrVectorForm)
		}
	}
}

func TestStepOfWhatMayNotBe(t *testing.T) {
	for _, v := range wrong() {
		for node := range 4 {
			checkNoStep(t, v, node, api.ErrVectorForm)
		}
		for _, node := range strangers() {
			checkNoStep(t, v, node, api.ErrVectorForm)
		}
	}
}

// The node's own count is full, and something else is wrong: that is told.
func TestStepTellsTheFormAhead(t *testing.T) {
	for node := range 4 {
		for other := range 4 {
			if other == node {
				continue
			}
			v := with([]int{0, 0, 0, 0}, node, full)
			checkNoStep(t, with(v, other, -1), node, api.ErrVectorForm)
			checkNoStep(t, with(v, other, full+1), node, api.ErrVectorForm)
		}
		checkNoStep(t, []int{full, full, full, full, full}, node, api.ErrVectorForm)
		checkNoStep(t, []int{full, full, full}, node, api.ErrVectorForm)
	}
	checkNoStep(t, []int{0, 0, 0, 0, full}, 4, api.ErrVectorForm)
}
