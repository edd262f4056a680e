package extra_test

import (
	"math"
	"slices"
	"strings"
	"testing"

	"portage/api"
	"portage/extra"
)

// full is MaxCount, written out.
const full = 1048576

func TestNumbers(t *testing.T) {
	if full != api.MaxCount || api.MaxNodes != 4 || api.Extra != 26 || api.ExtraId != 0x5070 {
		t.Fatal("the test is wrong")
	}
}

// head is an entry that has nothing but a head.
func head(vec []int, stamp int, node int, gone bool) api.Entry {
	return api.Entry{Vec: slices.Clone(vec), Stamp: stamp, Node: node, Gone: gone}
}

// plain is a head from which the others are made.
func plain() api.Entry {
	return head([]int{1, 2, 3, 4}, 5, 1, false)
}

// digits writes a number in so many bytes, by division.
func digits(value int, width int) string {
	text := ""
	for range width {
		text += string([]byte{byte(value % 256)})
		value /= 256
	}
	return text
}

// written is what a head's bytes are, part by part.
func written(e api.Entry) string {
	gone := "\x00"
	if e.Gone {
		gone = "\x01"
	}
	return "\x70\x50" + "\x16\x00" +
		digits(e.Vec[0], 4) + digits(e.Vec[1], 4) + digits(e.Vec[2], 4) + digits(e.Vec[3], 4) +
		digits(e.Stamp, 4) + digits(e.Node, 1) + gone
}

// equal tells whether a and b are alike in each field.
func equal(a api.Entry, b api.Entry) bool {
	return a.Name == b.Name && a.Gone == b.Gone && slices.Equal(a.Vec, b.Vec) &&
		a.Stamp == b.Stamp && a.Node == b.Node && a.Method == b.Method &&
		a.Packed == b.Packed && a.Size == b.Size && a.Crc == b.Crc
}

func checkPut(t *testing.T, e api.Entry, want string) {
	t.Helper()
	for range 2 {
		if s, err := extra.Put(e); s != want || err != api.OK {
			t.Errorf("P12.1: Put(%v): %q, %d, want %q", e, s, err, want)
		}
	}
}

func checkNoPut(t *testing.T, what string, e api.Entry) {
	t.Helper()
	for range 2 {
		if s, err := extra.Put(e); s != "" || err != api.ErrExtraForm {
			t.Errorf("P12.1: Put, %s: %q, %d, want nothing, ErrExtraForm", what, s, err)
		}
	}
}

func checkGet(t *testing.T, s string, want api.Entry) {
	t.Helper()
	for range 2 {
		if e, err := extra.Get(s); !equal(e, want) || err != api.OK {
			t.Errorf("P12.2: Get(%q): %v, %d, want %v", s, e, err, want)
		}
	}
}

func checkNoGet(t *testing.T, what string, s string) {
	t.Helper()
	for range 2 {
		e, err := extra.Get(s)
		if err != api.ErrExtraForm {
			t.Errorf("P12.2: Get(%q), %s: %d, want ErrExtraForm", s, what, err)
		}
		if !equal(e, api.Entry{}) {
			t.Errorf("R2: Get(%q), %s: %v beside an error", s, what, e)
		}
	}
}

// checkBoth asks for a head's bytes, and for the head that they tell of.
func checkBoth(t *testing.T, e api.Entry) {
	t.Helper()
	checkPut(t, e, written(e))
	checkGet(t, written(e), e)
}

func TestBytesWrittenOut(t *testing.T) {
	for _, row := range []struct {
		e    api.Entry
		want string
	}{
		{
			head([]int{0, 0, 0, 0}, 1, 0, false),
			"pP\x16\x00" + strings.Repeat("\x00", 16) + "\x01\x00\x00\x00" + "\x00" + "\x00",
		},
		{
			head([]int{1, 2, 3, 4}, 5, 3, true),
			"pP\x16\x00" + "\x01\x00\x00\x00" + "\x02\x00\x00\x00" + "\x03\x00\x00\x00" + "\x04\x00\x00\x00" +
				"\x05\x00\x00\x00" + "\x03" + "\x01",
		},
		{
			head([]int{0x010203, 0x0a0b0c, 0x0100, 0xff}, 0x0f1e2d, 2, false),
			"pP\x16\x00" + "\x03\x02\x01\x00" + "\x0c\x0b\x0a\x00" + "\x00\x01\x00\x00" + "\xff\x00\x00\x00" +
				"\x2d\x1e\x0f\x00" + "\x02" + "\x00",
		},
		{
			head([]int{full, full, full, full}, full, 1, true),
			"pP\x16\x00" + strings.Repeat("\x00\x00\x10\x00", 5) + "\x01" + "\x01",
		},
	} {
		if len(row.want) != api.Extra {
			t.Fatalf("the test is wrong: %d bytes", len(row.want))
		}
		checkPut(t, row.e, row.want)
		checkGet(t, row.want, row.e)
	}
}

// Each part turns its own bytes and no others.
func TestPlaceByPlace(t *testing.T) {
	base, _ := extra.Put(plain())
	turned := func(e api.Entry, at int, want string) {
		t.Helper()
		s, err := extra.Put(e)
		if err != api.OK || s != base[:at]+want+base[at+len(want):] {
			t.Errorf("P12.1: Put(%v): %q, %d, want %q at %d of %q", e, s, err, want, at, base)
		}
	}
	for node := range 4 {
		e := plain()
		e.Vec[node] = 0x0fedcb
		turned(e, 4+4*node, "\xcb\xed\x0f\x00")
	}
	e := plain()
	e.Stamp = 0x0abcde
	turned(e, 20, "\xde\xbc\x0a\x00")
	e = plain()
	e.Node = 3
	turned(e, 24, "\x03")
	e = plain()
	e.Gone = true
	turned(e, 25, "\x01")
}

func TestCountsAtEachNode(t *testing.T) {
	for node := range 4 {
		for _, count := range []int{0, 1, 2, 255, 256, 257, 65535, 65536, 65537, full - 1, full} {
			e := plain()
			e.Vec[node] = count
			checkBoth(t, e)
		}
	}
}

func TestStamps(t *testing.T) {
	for _, stamp := range []int{1, 2, 255, 256, 257, 65535, 65536, 65537, full - 1, full} {
		e := plain()
		e.Stamp = stamp
		checkBoth(t, e)
	}
}

// The head's parts stand each for itself: a Stamp may be unlike all counts,
// and a node that wrote last may have no count.
func TestEachNodeGoneOrNot(t *testing.T) {
	for node := range 4 {
		for _, gone := range []bool{false, true} {
			checkBoth(t, head([]int{1, 2, 3, 4}, 5, node, gone))
			checkBoth(t, head([]int{0, 0, 0, 0}, full, node, gone))
			checkBoth(t, head([]int{full, full, full, full}, 1, node, gone))
		}
	}
}

func TestOtherFieldsTurnNothing(t *testing.T) {
	for _, gone := range []bool{false, true} {
		base := head([]int{1, 2, 3, 4}, 5, 1, gone)
		full := base
		full.Name, full.Method, full.Packed, full.Size, full.Crc = "a.txt", api.MethodDeflated, "xyz", 9, 77
		odd := base
		odd.Name, odd.Method, odd.Packed, odd.Size, odd.Crc = "/", -5, strings.Repeat("x", 70000), -1, math.MinInt
		for _, e := range []api.Entry{full, odd} {
			checkPut(t, e, written(base))
			s, _ := extra.Put(e)
			checkGet(t, s, base)
		}
	}
}

func TestHeadsThatMayNotBe(t *testing.T) {
	for what, vec := range map[string][]int{
		"Vec nil":         nil,
		"Vec empty":       {},
		"Vec of one":      {1},
		"Vec too short":   {1, 2, 3},
		"Vec, spare room": make([]int, 3, 4),
		"Vec too long":    {1, 2, 3, 4, 5},
		"Vec too long, 0": {1, 2, 3, 4, 0},
		"Vec twice":       make([]int, 8),
		"Vec of 2^8 + 4":  make([]int, 260),
	} {
		checkNoPut(t, what, head(vec, 1, 0, false))
	}
	wrong := []int{-1, -full, math.MinInt, math.MinInt32, full + 1, 2 * full, math.MaxInt, math.MaxInt32, 1 << 32, 1<<32 + 1, 1<<40 + 5}
	for node := range 4 {
		for _, count := range wrong {
			e := plain()
			e.Vec[node] = count
			checkNoPut(t, "a count "+digits(node, 1), e)
		}
	}
	for _, stamp := range append(wrong, 0) {
		e := plain()
		e.Stamp = stamp
		checkNoPut(t, "Stamp", e)
	}
	for _, node := range append(wrong, -2, 4, 5, 255, 256, 257, 1<<32+2) {
		e := plain()
		e.Node = node
		checkNoPut(t, "Node", e)
		e.Gone = true
		checkNoPut(t, "Node, gone", e)
	}
	checkNoPut(t, "nothing at all", api.Entry{})
	checkNoPut(t, "all else", api.Entry{Name: "a", Method: 8, Packed: "x", Size: 1, Crc: 1})
}

func TestManyHeads(t *testing.T) {
	row := uint64(12)
	next := func(n int) int {
		row = row*6364136223846793005 + 1442695040888963407
		return int(row >> 33 % uint64(n))
	}
	for range 3000 {
		vec := make([]int, 4)
		for node := range vec {
			vec[node] = next(full + 1)
		}
		checkBoth(t, head(vec, 1+next(full), next(4), next(2) == 1))
	}
}
