package table_test

import (
	"math"
	"slices"
	"sync"
	"testing"

	"portage/api"
	"portage/huff"
	"portage/table"
)

// span is a row of RFC 1951, 3.2.5, as it is printed there: a symbol, its
// extra bits, the least and the greatest number.
type span struct {
	sym, bits, from, to int
}

func lengthSpans() []span {
	return []span{
		{257, 0, 3, 3}, {258, 0, 4, 4}, {259, 0, 5, 5}, {260, 0, 6, 6}, {261, 0, 7, 7},
		{262, 0, 8, 8}, {263, 0, 9, 9}, {264, 0, 10, 10}, {265, 1, 11, 12}, {266, 1, 13, 14},
		{267, 1, 15, 16}, {268, 1, 17, 18}, {269, 2, 19, 22}, {270, 2, 23, 26}, {271, 2, 27, 30},
		{272, 2, 31, 34}, {273, 3, 35, 42}, {274, 3, 43, 50}, {275, 3, 51, 58}, {276, 3, 59, 66},
		{277, 4, 67, 82}, {278, 4, 83, 98}, {279, 4, 99, 114}, {280, 4, 115, 130}, {281, 5, 131, 162},
		{282, 5, 163, 194}, {283, 5, 195, 226}, {284, 5, 227, 257}, {285, 0, 258, 258},
	}
}

func distSpans() []span {
	return []span{
		{0, 0, 1, 1}, {1, 0, 2, 2}, {2, 0, 3, 3}, {3, 0, 4, 4}, {4, 1, 5, 6},
		{5, 1, 7, 8}, {6, 2, 9, 12}, {7, 2, 13, 16}, {8, 3, 17, 24}, {9, 3, 25, 32},
		{10, 4, 33, 48}, {11, 4, 49, 64}, {12, 5, 65, 96}, {13, 5, 97, 128}, {14, 6, 129, 192},
		{15, 6, 193, 256}, {16, 7, 257, 384}, {17, 7, 385, 512}, {18, 8, 513, 768}, {19, 8, 769, 1024},
		{20, 9, 1025, 1536}, {21, 9, 1537, 2048}, {22, 10, 2049, 3072}, {23, 10, 3073, 4096}, {24, 11, 4097, 6144},
		{25, 11, 6145, 8192}, {26, 12, 8193, 12288}, {27, 12, 12289, 16384}, {28, 13, 16385, 24576}, {29, 13, 24577, 32768},
	}
}

// side is one half of the package: how a number's symbol is told, and how a
// symbol's numbers are.
type side struct {
	promise string
	symbol  func(n int) (api.Sym, api.Errno)
	numbers func(sym int) (int, int, api.Errno)
	spans   []span
}

func sides() []side {
	return []side{
		{"P6.1", table.Length, table.LengthOf, lengthSpans()},
		{"P6.2", table.Dist, table.DistOf, distSpans()},
	}
}

func (s side) first() span {
	return s.spans[0]
}

func (s side) last() span {
	return s.spans[len(s.spans)-1]
}

// The spans stand side by side, so that none of the tests below leaves a
// number out.
func TestTheSpansAreWhole(t *testing.T) {
	for _, s := range sides() {
		for i, x := range s.spans[1:] {
			if x.sym != s.spans[i].sym+1 || x.from != s.spans[i].to+1 || x.to < x.from {
				t.Fatalf("%s: %v behind %v", s.promise, x, s.spans[i])
			}
		}
	}
	l, d := lengthSpans(), distSpans()
	if len(l) != 29 || l[0].from != 3 || l[28].to != 258 || len(d) != 30 || d[0].from != 1 || d[29].to != 32768 {
		t.Fatal("the spans are not those of the chapter")
	}
}

func TestEveryNumberHasItsSymbol(t *testing.T) {
	for _, s := range sides() {
		for _, x := range s.spans {
			for n := x.from; n <= x.to; n++ {
				want := api.Sym{Sym: x.sym, Bits: x.bits, Value: n - x.from}
				if got, e := s.symbol(n); got != want || e != api.OK {
					t.Errorf("%s: %d: %v, %d, want %v", s.promise, n, got, e, want)
				}
			}
		}
	}
}

func TestEverySymbolHasItsNumbers(t *testing.T) {
	for _, s := range sides() {
		for _, x := range s.spans {
			if least, bits, e := s.numbers(x.sym); least != x.from || bits != x.bits || e != api.OK {
				t.Errorf("%s: symbol %d: %d, %d, %d, want %d, %d", s.promise, x.sym, least, bits, e, x.from, x.bits)
			}
		}
	}
}

// A number is told by its symbol and its extra bits, and comes back from them.
func TestEveryNumberComesBack(t *testing.T) {
	for _, s := range sides() {
		seen := map[api.Sym]int{}
		for n := s.first().from; n <= s.last().to; n++ {
			x, _ := s.symbol(n)
			if x.Value < 0 || x.Value >= 1<<x.Bits {
				t.Errorf("%s: %d: %v: no value of so many bits", s.promise, n, x)
			}
			least, bits, e := s.numbers(x.Sym)
			if least+x.Value != n || bits != x.Bits || e != api.OK {
				t.Errorf("%s: %d: %v comes to %d, %d, %d", s.promise, n, x, least+x.Value, bits, e)
			}
			if was, is := seen[x]; is {
				t.Errorf("%s: %d and %d are both %v", s.promise, was, n, x)
			}
			seen[x] = n
		}
	}
}

// What all extra bits 1 come to is the last number of a symbol, but for 284,
// whose last value is 258's, and 258 has a symbol to itself.
func TestTheGreatestLength(t *testing.T) {
	for n, want := range map[int]api.Sym{
		226: {Sym: 283, Bits: 5, Value: 31},
		227: {Sym: 284, Bits: 5, Value: 0},
		256: {Sym: 284, Bits: 5, Value: 29},
		257: {Sym: 284, Bits: 5, Value: 30},
		258: {Sym: 285, Bits: 0, Value: 0},
	} {
		if got, e := table.Length(n); got != want || e != api.OK {
			t.Errorf("P6.1: %d: %v, %d, want %v", n, got, e, want)
		}
	}
	for _, s := range sides() {
		for _, x := range s.spans {
			least, bits, _ := s.numbers(x.sym)
			want := x.to
			if x.sym == 284 {
				want = 258
			}
			if got := least + 1<<bits - 1; got != want {
				t.Errorf("%s: symbol %d goes up to %d, want %d", s.promise, x.sym, got, want)
			}
		}
	}
}

// strange are numbers that are neither, most of them such that a sum, a
// difference or fewer bits would make them one.
func strange() []int {
	return []int{
		math.MinInt, math.MinInt + 1, math.MinInt + 3, math.MinInt + 257, math.MinInt + 258,
		-1 << 32, -1<<32 + 5, math.MinInt32, math.MinInt32 + 3, -65536, -32768, -32767, -285, -258, -257, -3, -2, -1,
		65536 + 32768, 65536 + 258, math.MaxInt32, 1<<31 + 257, 1 << 32, 1<<32 + 1, 1<<32 + 3, 1<<32 + 257,
		1<<48 + 258, math.MaxInt - 258, math.MaxInt - 257, math.MaxInt - 1, math.MaxInt,
	}
}

func wantNoSymbol(t *testing.T, s side, n int) {
	t.Helper()
	if got, e := s.symbol(n); got != (api.Sym{}) || e != api.ErrTableForm {
		t.Errorf("%s: %d: %v, %d, want nothing, %d", s.promise, n, got, e, api.ErrTableForm)
	}
}

func wantNoNumbers(t *testing.T, s side, sym int) {
	t.Helper()
	if least, bits, e := s.numbers(sym); least != 0 || bits != 0 || e != api.ErrTableForm {
		t.Errorf("%s: symbol %d: %d, %d, %d, want 0, 0, %d", s.promise, sym, least, bits, e, api.ErrTableForm)
	}
}

func TestRefusesNumbersOutside(t *testing.T) {
	for _, s := range sides() {
		for k := 1; k <= 1000; k++ {
			wantNoSymbol(t, s, s.first().from-k)
			wantNoSymbol(t, s, s.last().to+k)
		}
		for _, n := range strange() {
			wantNoSymbol(t, s, n)
		}
	}
	lengths, dists := sides()[0], sides()[1]
	for _, n := range []int{0, 1, 2, 259, 260, 32768, 32769} {
		wantNoSymbol(t, lengths, n)
	}
	for _, n := range []int{0, 32769, 32770, 65536} {
		wantNoSymbol(t, dists, n)
	}
}

func TestRefusesSymbolsOutside(t *testing.T) {
	for _, s := range sides() {
		for k := 1; k <= 1000; k++ {
			wantNoNumbers(t, s, s.first().sym-k)
			wantNoNumbers(t, s, s.last().sym+k)
		}
		for _, sym := range strange() {
			wantNoNumbers(t, s, sym)
		}
	}
	lengths, dists := sides()[0], sides()[1]
	for _, sym := range []int{0, 28, 29, 255, 256, 286, 287, 288} {
		wantNoNumbers(t, lengths, sym)
	}
	for _, sym := range []int{30, 31, 32, 257, 285} {
		wantNoNumbers(t, dists, sym)
	}
}

func wantFixed(t *testing.T, got []int) {
	t.Helper()
	if len(got) != 288 {
		t.Fatalf("P6.3: %d lengths", len(got))
	}
	for _, part := range []struct{ from, to, want int }{
		{0, 143, 8}, {144, 255, 9}, {256, 279, 7}, {280, 287, 8},
	} {
		for sym := part.from; sym <= part.to; sym++ {
			if got[sym] != part.want {
				t.Errorf("P6.3: symbol %d: %d, want %d", sym, got[sym], part.want)
			}
		}
	}
}

func TestFixed(t *testing.T) {
	wantFixed(t, table.Fixed())
	if e := huff.Check(table.Fixed()); e != api.OK {
		t.Errorf("P6.3: the codes leave room, or have none: %d", e)
	}
}

// A row that was answered, and the room behind it, is the caller's.
func TestFixedSharesNothing(t *testing.T) {
	one, two := table.Fixed(), table.Fixed()
	for i := range one {
		one[i] = -1
	}
	clear(one[:cap(one)])
	wantFixed(t, two)
	wantFixed(t, table.Fixed())
	slices.Sort(two)
	clear(two[:cap(two)])
	wantFixed(t, table.Fixed())
}

// A refused call leaves nothing that a later one could tell.
func TestCallsStandAlone(t *testing.T) {
	for _, s := range sides() {
		for _, x := range s.spans {
			wantNoSymbol(t, s, s.last().to+1)
			wantNoNumbers(t, s, s.last().sym+1)
			for range 2 {
				got, e := s.symbol(x.to)
				if got != (api.Sym{Sym: x.sym, Bits: x.bits, Value: x.to - x.from}) || e != api.OK {
					t.Errorf("%s: %d: %v, %d", s.promise, x.to, got, e)
				}
			}
		}
	}
}

func TestFromSeveralGoroutines(t *testing.T) {
	var all sync.WaitGroup
	for k := range 8 {
		all.Go(func() {
			for range 20 {
				own := table.Fixed()
				for i := range own {
					own[i] = k
				}
				for _, s := range sides() {
					for _, x := range s.spans {
						got, e := s.symbol(x.from)
						least, bits, f := s.numbers(x.sym)
						if got != (api.Sym{Sym: x.sym, Bits: x.bits}) || e != api.OK || least != x.from || bits != x.bits || f != api.OK {
							t.Errorf("R5: %s: %v: %v, %d; %d, %d, %d", s.promise, x, got, e, least, bits, f)
						}
					}
				}
				if slices.ContainsFunc(own, func(n int) bool { return n != k }) {
					t.Error("R5: a row was shared")
				}
			}
		})
	}
	all.Wait()
	wantFixed(t, table.Fixed())
}
