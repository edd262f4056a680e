package vector_test

import (
	"slices"
	"testing"

	"portage/api"
	"portage/vector"
)

// checkJoin asks for what two come to, and for the two the other way round.
func checkJoin(t *testing.T, a []int, b []int, want []int) {
	t.Helper()
	if got, e := vector.Join(a, b); !slices.Equal(got, want) || e != api.OK {
		t.Errorf("P11.2: Join(%v, %v): %v, %d, want %v", a, b, got, e, want)
	}
	if got, e := vector.Join(b, a); !slices.Equal(got, want) || e != api.OK {
		t.Errorf("P11.2: Join(%v, %v): %v, %d, want %v", b, a, got, e, want)
	}
}

func join(t *testing.T, a []int, b []int) []int {
	t.Helper()
	both, e := vector.Join(a, b)
	if e != api.OK {
		t.Fatalf("P11.2: Join(%v, %v): %d", a, b, e)
	}
	return both
}

// atMost tells whether a is the same as b, or less.
func atMost(t *testing.T, a []int, b []int) bool {
	t.Helper()
	order, e := vector.Order(a, b)
	if e != api.OK {
		t.Fatalf("P11.1: Order(%v, %v): %d", a, b, e)
	}
	return order == api.OrderSame || order == api.OrderLess
}

func TestJoin(t *testing.T) {
	none, some := []int{0, 0, 0, 0}, []int{1, 2, 3, 4}
	all := []int{full, full, full, full}
	// The same.
	checkJoin(t, none, none, none)
	checkJoin(t, some, some, some)
	checkJoin(t, all, all, all)
	checkJoin(t, some, []int{1, 2, 3, 4}, some)
	// Less, and (the other way round) more.
	checkJoin(t, none, some, some)
	checkJoin(t, some, all, all)
	checkJoin(t, none, all, all)
	checkJoin(t, some, []int{1, 3, 3, 5}, []int{1, 3, 3, 5})
	// Apart.
	checkJoin(t, some, []int{4, 3, 2, 1}, []int{4, 3, 3, 4})
	checkJoin(t, []int{7, 0, 0, 0}, []int{0, 0, 0, 9}, []int{7, 0, 0, 9})
	checkJoin(t, []int{full, 0, full, 0}, []int{0, full, 0, full}, all)
	checkJoin(t, []int{5, 1, 0, full}, []int{4, 2, 0, full - 1}, []int{5, 2, 0, full})
}

func TestJoinByOneNode(t *testing.T) {
	for _, v := range [][]int{{0, 0, 0, 0}, {1, 2, 3, 4}, {full - 1, full - 1, full - 1, full - 1}} {
		for node, count := range v {
			for _, more := range []int{count + 1, full} {
				checkJoin(t, v, with(v, node, more), with(v, node, more))
			}
		}
	}
}

// T3: what two come to is no less than either, and no more than it must be.
func TestJoinOfEachTwo(t *testing.T) {
	all := grid()
	for _, a := range all {
		for _, b := range all {
			want := make([]int, 4)
			for i := range want {
				want[i] = a[i]
				if b[i] > a[i] {
					want[i] = b[i]
				}
			}
			both := join(t, a, b)
			if !slices.Equal(both, want) {
				t.Fatalf("P11.2: Join(%v, %v): %v", a, b, both)
			}
			if !vector.May(both) || !atMost(t, a, both) || !atMost(t, b, both) {
				t.Fatalf("T3: Join(%v, %v) fell: %v", a, b, both)
			}
			if atMost(t, a, b) != slices.Equal(both, b) {
				t.Fatalf("P11.1: %v, %v: Order and Join do not agree", a, b)
			}
		}
	}
}

// T3: vectors are joined in any row, as often as one likes, to one.
func TestJoinInAnyRow(t *testing.T) {
	all := grid()
	for i, a := range all {
		for j, b := range all {
			c := all[(i*37+j*11+5)%len(all)]
			one := join(t, join(t, a, b), c)
			for _, other := range [][]int{
				join(t, a, join(t, b, c)), join(t, c, join(t, b, a)), join(t, join(t, c, a), b),
				join(t, one, a), join(t, b, one), join(t, one, one), join(t, join(t, one, c), join(t, a, b)),
			} {
				if !slices.Equal(one, other) {
					t.Fatalf("T3: %v, %v, %v: %v and %v", a, b, c, one, other)
				}
			}
		}
	}
}

func TestJoinRefuses(t *testing.T) {
	for what, v := range wrong() {
		refused := func(a []int, b []int) {
			t.Helper()
			if got, e := vector.Join(a, b); len(got) != 0 || e != api.ErrVectorForm {
				t.Errorf("P11.2: Join, %s: %v, %d", what, got, e)
			}
		}
		for _, good := range [][]int{{0, 0, 0, 0}, {3, 1, 4, 1}, {full, full, full, full}} {
			refused(v, good)
			refused(good, v)
		}
		refused(v, v)
		refused(v, nil)
		refused(nil, v)
		refused(v, []int{-1, 0, 0, 0})
		refused([]int{0, 0, 0, full + 1}, v)
	}
}
