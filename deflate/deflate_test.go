package deflate_test

import (
	"compress/flate"
	"io"
	"math/rand"
	"strings"
	"sync"
	"testing"
	"unsafe"

	"portage/api"
	"portage/deflate"
	"portage/layout"
)

// check asks all that is promised of a text of at most MaxText bytes, and
// tells by which method it is packed.
func check(t *testing.T, s string) int {
	t.Helper()
	streams := three(t, s)
	want := streams[first(streams)]
	got, e := deflate.Deflate(s)
	if got != want || e != api.OK {
		t.Errorf("P9.1: Deflate(%q): %x, %d, want %x", s, got, e, want)
	}
	from := strings.NewReader(got)
	other, err := io.ReadAll(flate.NewReader(from))
	if string(other) != s || from.Len() != 0 || err != nil {
		t.Errorf("P9.1: Deflate(%q): another reads %q, %d bytes left, %v", s, other, from.Len(), err)
	}
	by, bytes := api.MethodStored, s
	if len(want) < len(s) {
		by, bytes = api.MethodDeflated, want
	}
	method, packed, e := deflate.Pack(s)
	if method != by || packed != bytes || e != api.OK {
		t.Errorf("P9.2: Pack(%q): %d, %q, %d, want %d, %q", s, method, packed, e, by, bytes)
	}
	if back, e := deflate.Unpack(method, packed, len(s)); back != s || e != api.OK {
		t.Errorf("P9.3: %q was packed, %q is told, %d", s, back, e)
	}
	opens(t, api.MethodDeflated, got, s)
	return method
}

// opens asks for the text of what was packed.
func opens(t *testing.T, method int, packed string, want string) {
	t.Helper()
	if got, e := deflate.Unpack(method, packed, len(want)); got != want || e != api.OK {
		t.Errorf("P9.2: Unpack(%d, %q, %d): %q, %d", method, packed, len(want), got, e)
	}
}

func refusesText(t *testing.T, s string) {
	t.Helper()
	if got, e := deflate.Deflate(s); got != "" || e != api.ErrDeflateForm {
		t.Errorf("P9.1: Deflate of %d bytes: %d bytes, %d", len(s), len(got), e)
	}
	if method, got, e := deflate.Pack(s); method != 0 || got != "" || e != api.ErrDeflateForm {
		t.Errorf("P9.2: Pack of %d bytes: %d, %d bytes, %d", len(s), method, len(got), e)
	}
}

func TestByHand(t *testing.T) {
	for _, c := range []struct {
		s      string
		stream string
		method int
	}{
		{"", "\x03\x00", api.MethodStored},
		{"a", "\x4b\x04\x00", api.MethodStored},
		// No copy has fewer than 3 bytes.
		{"aaa", "\x4b\x4c\x4c\x04\x00", api.MethodStored},
		// As long as the text, and shorter by a byte.
		{"abcabc", "\x4b\x4c\x4a\x06\x22\x00", api.MethodStored},
		{"aaaa", "\x4b\x04\x02\x00", api.MethodStored},
		{"aaaaa", "\x4b\x04\x01\x00", api.MethodDeflated},
		// Here the fixed stream has 28 bytes, too.
		{high(23), "\x01\x17\x00\xe8\xff" + high(23), api.MethodStored},
	} {
		if got, e := deflate.Deflate(c.s); got != c.stream || e != api.OK {
			t.Errorf("P9.1: Deflate(%q): %x, %d, want %x", c.s, got, e, c.stream)
		}
		if method := check(t, c.s); method != c.method {
			t.Errorf("P9.2: Pack(%q): %d, want %d", c.s, method, c.method)
		}
	}
}

// order tells how the lengths of two streams lie.
func order(a string, b string) string {
	switch {
	case len(a) < len(b):
		return "<"
	case len(a) > len(b):
		return ">"
	}
	return "="
}

// Each way in which the lengths of the three can lie: stored and fixed, stored
// and dynamic, fixed and dynamic.
func TestWhichIsTaken(t *testing.T) {
	for _, c := range []struct {
		orders string
		kind   int
		s      string
	}{
		{"<<<", layout.KindStored, high(31)},
		{"<<>", layout.KindStored, high(39) + few(89, 16)},
		{"<<=", layout.KindStored, high(31) + few(87, 16)},
		{"=<<", layout.KindStored, high(23)},
		{"=<<", layout.KindStored, high(30)},
		{"<=>", layout.KindStored, high(31) + few(89, 16)},
		{"<=>", layout.KindStored, high(91) + few(209, 40)},
		{"===", layout.KindStored, high(23) + few(85, 16)},
		{"===", layout.KindStored, high(30) + few(140, 40)},
		{"><<", layout.KindFixed, ""},
		{"><<", layout.KindFixed, high(22)},
		{">=<", layout.KindFixed, few(56, 4)},
		{">=<", layout.KindFixed, high(22) + few(134, 40)},
		{">><", layout.KindFixed, few(58, 4)},
		{">>=", layout.KindFixed, few(139, 4)},
		{">>=", layout.KindFixed, high(22) + few(137, 40)},
		{">>>", layout.KindDynamic, few(142, 4)},
		{">>>", layout.KindDynamic, few(300, 4)},
		{"=>>", layout.KindDynamic, high(23) + few(88, 16)},
		{"<>>", layout.KindDynamic, high(31) + few(91, 16)},
		{"<>>", layout.KindDynamic, high(89) + few(211, 40)},
	} {
		x := three(t, c.s)
		if is := order(x[0], x[1]) + order(x[0], x[2]) + order(x[1], x[2]); is != c.orders {
			t.Fatalf("the test is wrong: %q is %s, want %s", c.s, is, c.orders)
		}
		got, _ := deflate.Deflate(c.s)
		if got == "" || int(got[0]>>1&3) != c.kind {
			t.Errorf("P9.1: %s: %x is taken of %q, want kind %d", c.orders, got, c.s, c.kind)
		}
		check(t, c.s)
	}
}

// A stream that is as long as the text is not taken, one that is a byte
// shorter is.
func TestWhichMethodIsTaken(t *testing.T) {
	for _, c := range []struct {
		s      string
		kind   int
		more   int
		method int
	}{
		{high(2) + few(16, 4), layout.KindFixed, 1, api.MethodStored},
		{high(112) + few(48, 4), layout.KindFixed, 1, api.MethodStored},
		{few(16, 4), layout.KindFixed, 0, api.MethodStored},
		{high(112) + few(51, 4), layout.KindFixed, 0, api.MethodStored},
		{few(17, 4), layout.KindFixed, -1, api.MethodDeflated},
		{high(112) + few(52, 4), layout.KindFixed, -1, api.MethodDeflated},
		{few(85, 16), layout.KindDynamic, 1, api.MethodStored},
		{few(88, 16), layout.KindDynamic, 0, api.MethodStored},
		{high(83) + few(217, 40), layout.KindDynamic, 0, api.MethodStored},
		{few(90, 16), layout.KindDynamic, -1, api.MethodDeflated},
		{high(81) + few(219, 40), layout.KindDynamic, -1, api.MethodDeflated},
		{high(31), layout.KindStored, 5, api.MethodStored},
		{few(300, 256), layout.KindStored, 5, api.MethodStored},
	} {
		x := three(t, c.s)
		if kind := first(x); kind != c.kind || len(x[kind])-len(c.s) != c.more {
			t.Fatalf("the test is wrong: %q: kind %d, %d bytes more", c.s, kind, len(x[kind])-len(c.s))
		}
		if method := check(t, c.s); method != c.method {
			t.Errorf("P9.2: Pack(%q): %d, want %d", c.s, method, c.method)
		}
	}
}

func TestEachLength(t *testing.T) {
	for n := range api.MaxText + 1 {
		check(t, unlike(n))
		check(t, strings.Repeat("\x00", n))
		check(t, strings.Repeat("\xff", n))
		check(t, few(n, 3))
		check(t, few(n, 256))
	}
}

func TestEachByte(t *testing.T) {
	for b := range 256 {
		for _, n := range []int{1, 2, 3, 4, 5, 300} {
			check(t, strings.Repeat(string([]byte{byte(b)}), n))
		}
	}
}

func TestLongTextsAreRefused(t *testing.T) {
	for _, n := range []int{301, 302, 556, 8192, 8193, 65536, 65537, 65536 + 300, 1 << 20} {
		refusesText(t, strings.Repeat("x", n))
		refusesText(t, few(n, 256))
	}
	// Fewer than MaxText letters, but more bytes.
	refusesText(t, strings.Repeat("ä", 151))
	check(t, strings.Repeat("ä", 150))
}

// all calls do with each text of at most n bytes a and b.
func all(n int, s string, do func(s string)) {
	do(s)
	if len(s) < n {
		all(n, s+"a", do)
		all(n, s+"b", do)
	}
}

func TestAllShortTexts(t *testing.T) {
	all(9, "", func(s string) { check(t, s) })
}

func TestTextsByChance(t *testing.T) {
	r := rand.New(rand.NewSource(9))
	seen := map[int]int{}
	for range 1500 {
		seen[check(t, byChance(r, api.MaxText))]++
	}
	if seen[api.MethodStored] < 200 || seen[api.MethodDeflated] < 200 {
		t.Errorf("the test is wrong: %v", seen)
	}
}

// What is answered is new memory, even where it is what was handed in.
func TestAnswersShareNoMemory(t *testing.T) {
	for _, s := range []string{"a", high(40), unlike(300), few(300, 256)} {
		method, packed, _ := deflate.Pack(s)
		back, _ := deflate.Unpack(method, packed, len(s))
		if method != api.MethodStored || packed != s || back != s {
			t.Fatalf("P9.2: %q: %d, %q, %q", s, method, packed, back)
		}
		if unsafe.StringData(packed) == unsafe.StringData(s) || unsafe.StringData(back) == unsafe.StringData(packed) {
			t.Errorf("R4: %q is handed out itself", s)
		}
	}
}

func TestFromSeveralGoroutines(t *testing.T) {
	var all sync.WaitGroup
	for k := range 8 {
		all.Add(1)
		go func() {
			defer all.Done()
			r := rand.New(rand.NewSource(int64(k)))
			for range 20 {
				check(t, byChance(r, api.MaxText))
			}
		}()
	}
	all.Wait()
}
