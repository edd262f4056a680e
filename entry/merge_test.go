package entry_test

import (
	"strings"
	"testing"

	"portage/api"
	"portage/entry"
	"portage/vector"
)

// ranked is e written last at a Stamp by a Node.
func ranked(e api.Entry, stamp int, node int) api.Entry {
	return with(e, func(e *api.Entry) { e.Stamp, e.Node = stamp, node })
}

// knows is e with another Vec.
func knows(e api.Entry, vec ...int) api.Entry {
	return with(e, func(e *api.Entry) { e.Vec = vec })
}

// kinds is an entry of each kind, and of one kind some that are unlike.
func kinds() []api.Entry {
	long := strings.Repeat("abc", 9)
	return []api.Entry{
		stored("abc"), stored("abd"), packed(long), stored(long), packed(long + "d"),
		packed(""), file("", 8, "\x03\x00"), packed(noise(most)), packed(strings.Repeat("x", most)), gone(),
	}
}

func TestWhichOneWins(t *testing.T) {
	// Each row's first one loses to its second one.
	ranks := [][4]int{
		{1, 0, 2, 0}, {1, 3, 2, 0}, {1, 0, full, 0}, {full - 1, 3, full, 0}, {255, 2, 256, 1}, {65535, 3, 65536, 3}, {2, 1, 10, 1},
		{1, 0, 1, 1}, {1, 0, 1, 3}, {1, 1, 1, 2}, {7, 2, 7, 3}, {full, 0, full, 1}, {full, 2, full, 3},
	}
	for _, a := range kinds() {
		for _, b := range kinds() {
			for _, r := range ranks {
				lost, won := knows(ranked(a, r[0], r[1]), 3, 1, 4, 1), knows(ranked(b, r[2], r[3]), 2, 7, 1, 8)
				want := knows(won, 3, 7, 4, 8)
				checkTwo(t, "the greater one behind", lost, won, want)
				checkTwo(t, "the greater one first", won, lost, want)
			}
		}
	}
}

// Of one Stamp and Node the first one wins, however unlike they are.
func TestEqualOnes(t *testing.T) {
	for _, a := range kinds() {
		for _, b := range kinds() {
			for _, r := range [][2]int{{1, 0}, {1, 3}, {9, 1}, {full, 2}} {
				a, b := knows(ranked(a, r[0], r[1]), 3, 1, 4, 1), knows(ranked(b, r[0], r[1]), 2, 7, 1, 8)
				checkTwo(t, "one Stamp and Node", a, b, knows(a, 3, 7, 4, 8))
				checkTwo(t, "one Stamp and Node", b, a, knows(b, 3, 7, 4, 8))
			}
		}
	}
}

func TestWithItself(t *testing.T) {
	for _, e := range kinds() {
		checkTwo(t, "with itself", e, e, e)
		checkTwo(t, "with its like", e, with(e, func(e *api.Entry) {}), e)
	}
}

// Vectors turn nothing of which one wins, and are joined whichever wins.
func TestVectors(t *testing.T) {
	rows := []struct{ a, b, want []int }{
		{[]int{0, 0, 0, 0}, []int{0, 0, 0, 0}, []int{0, 0, 0, 0}},
		{[]int{1, 2, 3, 4}, []int{1, 2, 3, 4}, []int{1, 2, 3, 4}},
		{[]int{0, 0, 0, 0}, []int{1, 2, 3, 4}, []int{1, 2, 3, 4}},
		{[]int{1, 2, 3, 4}, []int{4, 3, 2, 1}, []int{4, 3, 3, 4}},
		{[]int{full, 0, full, 0}, []int{0, full, 0, full}, []int{full, full, full, full}},
		{[]int{full, full, full, full}, []int{0, 1, 2, 3}, []int{full, full, full, full}},
		{[]int{5, 0, 0, 0}, []int{4, 0, 0, 0}, []int{5, 0, 0, 0}},
		{[]int{0, 0, 0, 5}, []int{0, 0, 0, 6}, []int{0, 0, 0, 6}},
	}
	for _, x := range kinds() {
		for _, y := range kinds() {
			for _, r := range rows {
				low, high := ranked(x, 6, 2), ranked(y, 6, 3)
				want := knows(high, r.want...)
				checkTwo(t, "vectors", knows(low, r.a...), knows(high, r.b...), want)
				checkTwo(t, "vectors", knows(low, r.b...), knows(high, r.a...), want)
				checkTwo(t, "vectors", knows(high, r.a...), knows(low, r.b...), want)
				checkTwo(t, "vectors", knows(high, r.b...), knows(low, r.a...), want)
			}
		}
	}
}

func TestNamesThatAreUnlike(t *testing.T) {
	for _, a := range kinds() {
		for _, b := range kinds() {
			for _, names := range [][2]string{{"a", "b"}, {"a", "aa"}, {"ab", "ba"}, {"a.", "a_"}, {"1234567", "12345678"}, {"...", "...."}} {
				x, y := with(a, func(e *api.Entry) { e.Name = names[0] }), with(b, func(e *api.Entry) { e.Name = names[1] })
				checkApart(t, "names that are unlike", x, y)
				checkApart(t, "names that are unlike", y, x)
				y.Name = names[0]
				checkTwo(t, "names that are alike", ranked(x, 2, 0), ranked(y, 1, 0), knows(ranked(x, 2, 0), join(t, x.Vec, y.Vec)...))
			}
		}
	}
}

func join(t *testing.T, a []int, b []int) []int {
	t.Helper()
	both, err := vector.Join(a, b)
	if err != api.OK {
		t.Fatalf("the test is wrong: %d", err)
	}
	return both
}

// One that may not be is refused, whether it would win or not; two of them
// too, and however alike they are.
func TestRefused(t *testing.T) {
	turns := map[string]func(e *api.Entry){
		"Vec":        func(e *api.Entry) { e.Vec = nil },
		"a count":    func(e *api.Entry) { e.Vec[3] = full + 1 },
		"Stamp":      func(e *api.Entry) { e.Stamp = 0 },
		"more Stamp": func(e *api.Entry) { e.Stamp = full + 1 },
		"Node":       func(e *api.Entry) { e.Node = -1 },
		"more Node":  func(e *api.Entry) { e.Node = 4 },
		"Method":     func(e *api.Entry) { e.Method = 99 },
		"Packed":     func(e *api.Entry) { e.Packed += "\x00" },
		"Size":       func(e *api.Entry) { e.Size++ },
		"Crc":        func(e *api.Entry) { e.Crc ^= 1 },
	}
	for _, good := range kinds() {
		for what, turn := range turns {
			for _, e := range kinds() {
				for _, stamp := range []int{1, 7, full} {
					bad := with(ranked(e, stamp, 2), turn)
					checkApart(t, what, bad, ranked(good, 7, 1))
					checkApart(t, what, ranked(good, 7, 1), bad)
					checkApart(t, what, bad, bad)
				}
			}
		}
	}
}

// better tells whether x wins against y, whichever is handed in first.
func better(x api.Entry, y api.Entry) bool {
	return x.Stamp > y.Stamp || x.Stamp == y.Stamp && x.Node > y.Node
}

// drawn makes entries of one name, by a row of numbers: of one Stamp and Node
// there is just one text, unless they may be unlike.
func drawn(next func(n int) int, unlike bool) func() api.Entry {
	es := kinds()
	return func() api.Entry {
		stamp, node := 1+next(4), next(4)
		kind := stamp + 4*node
		if unlike {
			kind = next(99)
		}
		e := ranked(es[kind%len(es)], stamp, node)
		return knows(e, next(3), next(3), next(3), next(3))
	}
}

func merge(t *testing.T, a api.Entry, b api.Entry) api.Entry {
	t.Helper()
	got, err := entry.Merge(a, b)
	if err != api.OK {
		t.Fatalf("P15.2: Merge(%v, %v): %d", a, b, err)
	}
	return got
}

func TestByChance(t *testing.T) {
	draw := drawn(row(15), true)
	for range 4000 {
		a, b := draw(), draw()
		want := a
		if better(b, a) {
			want = b
		}
		checkTwo(t, "by chance", a, b, knows(want, join(t, a.Vec, b.Vec)...))
	}
}

// T3: entries merge in any row, as often as one likes, to one.
func TestInAnyRow(t *testing.T) {
	draw := drawn(row(3), false)
	for range 1500 {
		a, b, c := draw(), draw(), draw()
		one := merge(t, merge(t, a, b), c)
		for _, other := range []api.Entry{
			merge(t, a, merge(t, b, c)), merge(t, merge(t, a, c), b), merge(t, b, merge(t, a, c)), merge(t, merge(t, b, c), a),
			merge(t, c, merge(t, a, b)), merge(t, merge(t, c, b), a), merge(t, one, one), merge(t, one, a), merge(t, b, one),
			merge(t, merge(t, one, c), merge(t, a, b)),
		} {
			if !same(one, other) {
				t.Fatalf("T3: %v, %v, %v: %v and %v", a, b, c, one, other)
			}
		}
		for _, e := range []api.Entry{a, b, c} {
			if order, _ := vector.Order(e.Vec, one.Vec); order != api.OrderSame && order != api.OrderLess || better(e, one) {
				t.Fatalf("T3: %v, %v, %v: fell to %v", a, b, c, one)
			}
		}
	}
}

// Where there are unlike ones of one Stamp and Node, the first of the best
// wins, however the three are put together.
func TestThreeWithUnlikeOnes(t *testing.T) {
	draw := drawn(row(4), true)
	ties := 0
	for range 3000 {
		es := []api.Entry{draw(), draw(), draw()}
		want := es[0]
		for _, e := range es[1:] {
			if better(e, want) {
				want = e
			} else if !better(want, e) && e.Packed != want.Packed {
				ties++
			}
		}
		want = knows(want, join(t, join(t, es[0].Vec, es[1].Vec), es[2].Vec)...)
		left, right := merge(t, merge(t, es[0], es[1]), es[2]), merge(t, es[0], merge(t, es[1], es[2]))
		if !same(left, want) || !same(right, want) {
			t.Fatalf("P15.2: %v: %v, %v, want %v", es, left, right, want)
		}
	}
	if ties < 50 {
		t.Errorf("the test is wrong: %d", ties)
	}
}

// What wins keeps its text.
func TestTextsOfWhatWins(t *testing.T) {
	long := strings.Repeat("portage ", 30)
	first, second := ranked(packed(long), 4, 0), ranked(stored("short"), 3, 3)
	got := merge(t, second, first)
	if s, err := entry.Text(got); s != long || err != api.OK {
		t.Errorf("P15.2: %v: %q, %d", got, s, err)
	}
	got = merge(t, first, ranked(gone(), 4, 1))
	if s, err := entry.Text(got); s != "" || err != api.ErrEntryText {
		t.Errorf("P15.2: %v: %q, %d", got, s, err)
	}
	got = merge(t, got, ranked(second, 5, 0))
	if s, err := entry.Text(got); s != "short" || err != api.OK {
		t.Errorf("P15.2: %v: %q, %d", got, s, err)
	}
}
