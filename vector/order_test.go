package vector_test

import (
	"testing"

	"portage/api"
	"portage/vector"
)

// turned is each order as it is told the other way round.
func turned(order int) int {
	return [4]int{0, 2, 1, 3}[order]
}

// wantOrder counts the nodes by which a is not at most b, and not at least.
func wantOrder(a []int, b []int) int {
	over, under := 0, 0
	for i := range a {
		switch d := a[i] - b[i]; {
		case d > 0:
			over++
		case d < 0:
			under++
		}
	}
	if over+under == 0 {
		return 0
	}
	if over == 0 {
		return 1
	}
	if under == 0 {
		return 2
	}
	return 3
}

// checkOrder asks for an order, and for the same two the other way round.
func checkOrder(t *testing.T, a []int, b []int, want int) {
	t.Helper()
	if got, e := vector.Order(a, b); got != want || e != api.OK {
		t.Errorf("P11.1: Order(%v, %v): %d, %d, want %d", a, b, got, e, want)
	}
	if got, e := vector.Order(b, a); got != turned(want) || e != api.OK {
		t.Errorf("P11.1: Order(%v, %v): %d, %d, want %d", b, a, got, e, turned(want))
	}
}

func TestTheOrders(t *testing.T) {
	for _, c := range []struct {
		a, b []int
		want int
	}{
		{[]int{0, 0, 0, 0}, []int{0, 0, 0, 0}, api.OrderSame},
		{[]int{1, 2, 3, 4}, []int{1, 2, 3, 4}, api.OrderSame},
		{[]int{full, full, full, full}, []int{full, full, full, full}, api.OrderSame},
		{[]int{0, 0, 0, 0}, []int{full, full, full, full}, api.OrderLess},
		{[]int{0, 0, 0, 0}, []int{1, 1, 1, 1}, api.OrderLess},
		{[]int{1, 2, 3, 4}, []int{1, 3, 3, 5}, api.OrderLess},
		{[]int{5, 0, 0, 2}, []int{2, 0, 0, 2}, api.OrderMore},
		{[]int{2, 3, 4, 5}, []int{1, 2, 3, 4}, api.OrderMore},
		{[]int{1, 0, 0, 0}, []int{0, 1, 0, 0}, api.OrderApart},
		{[]int{1, 2, 3, 4}, []int{4, 3, 2, 1}, api.OrderApart},
		{[]int{full, 0, 0, 0}, []int{0, full, full, full}, api.OrderApart},
		// One node decides against the three others, whatever the sums are.
		{[]int{9, 9, 9, 0}, []int{0, 0, 0, 1}, api.OrderApart},
		{[]int{0, 9, 9, 9}, []int{1, 0, 0, 0}, api.OrderApart},
		{[]int{1, 1, 0, 0}, []int{0, 0, 1, 1}, api.OrderApart},
		// The same counts at other nodes.
		{[]int{7, 8, 0, 0}, []int{8, 7, 0, 0}, api.OrderApart},
	} {
		checkOrder(t, c.a, c.b, c.want)
	}
}

// The numbers that api gives the orders are those that the tests write out.
func TestOrdersByNumber(t *testing.T) {
	if api.OrderSame != 0 || api.OrderLess != 1 || api.OrderMore != 2 || api.OrderApart != 3 {
		t.Fatal("the test is wrong")
	}
}

func TestOrderByOneNode(t *testing.T) {
	for _, v := range [][]int{{0, 0, 0, 0}, {1, 2, 3, 4}, {full - 1, full - 1, full - 1, full - 1}, {0, full, 0, full}} {
		checkOrder(t, v, v, api.OrderSame)
		for node, count := range v {
			for _, more := range []int{count + 1, count + 255, full} {
				if more > count && more <= full {
					checkOrder(t, v, with(v, node, more), api.OrderLess)
				}
			}
		}
	}
}

// One node below, another above, at each two nodes and by any difference.
func TestOrderApartByTwoNodes(t *testing.T) {
	v := []int{10, 20, 30, 40}
	for up := range v {
		for down := range v {
			if up == down {
				continue
			}
			for _, more := range []int{v[up] + 1, v[up] + 2, full} {
				for _, less := range []int{0, v[down] - 2, v[down] - 1} {
					checkOrder(t, with(with(v, up, more), down, less), v, api.OrderApart)
				}
			}
		}
	}
}

func TestOrderOfEachTwo(t *testing.T) {
	all := grid()
	seen := map[int]int{}
	for _, a := range all {
		for _, b := range all {
			want := wantOrder(a, b)
			seen[want]++
			checkOrder(t, a, b, want)
		}
	}
	if seen[0] != 256 || seen[1] != seen[2] || seen[1] != 10*10*10*10-256 || len(seen) != 4 {
		t.Fatalf("the model is wrong: %v", seen)
	}
}

func TestOrderRefuses(t *testing.T) {
	for what, v := range wrong() {
		refused := func(a []int, b []int) {
			t.Helper()
			if got, e := vector.Order(a, b); got != 0 || e != api.ErrVectorForm {
				t.Errorf("P11.1: Order, %s: %d, %d", what, got, e)
			}
		}
		for _, good := range [][]int{{0, 0, 0, 0}, {3, 1, 4, 1}, {full, full, full, full}} {
			refused(v, good)
			refused(good, v)
		}
		refused(v, v)
		refused(v, nil)
		refused(nil, v)
		refused(v, []int{-1, 0, 0, 0})
		refused([]int{0, 0, 0, full + 1}, v)
	}
}
