package block_test

import (
	"slices"
	"strings"

	"portage/api"
)

// The model writes blocks as rows of 0 and 1, in the order in which the bits
// stand, and calls no layer of the project: lengths, codes and symbols are
// worked out here, in other ways.

// number is a row of bits, the lowest one first.
func number(x int, width int) string {
	row := ""
	for i := range width {
		row += string(rune('0' + x>>i&1))
	}
	return row
}

// packed is the bytes of a row of bits; blanks are none, and what the last
// byte has besides is 0.
func packed(row string) string {
	var out []byte
	row = strings.ReplaceAll(row, " ", "")
	for i := range len(row) {
		if i%8 == 0 {
			out = append(out, 0)
		}
		out[i/8] |= (row[i] - '0') << (i % 8)
	}
	return string(out)
}

// node is a tree of symbols.
type node struct {
	weight  int
	symbols []int
}

// takeLeast takes the first one of the least nodes out of the row in which
// they were made.
func takeLeast(row []node) (node, []node) {
	at := 0
	for i, x := range row {
		if x.weight < row[at].weight {
			at = i
		}
	}
	least := row[at]
	return least, slices.Delete(row, at, at+1)
}

// depths is how deep each symbol stands, whatever that is.
func depths(counts []int) []int {
	var row []node
	for symbol, n := range counts {
		if n > 0 {
			row = append(row, node{n, []int{symbol}})
		}
	}
	out := make([]int, len(counts))
	for len(row) > 1 {
		var a, b node
		a, row = takeLeast(row)
		b, row = takeLeast(row)
		both := slices.Concat(a.symbols, b.symbols)
		for _, symbol := range both {
			out[symbol]++
		}
		row = append(row, node{a.weight + b.weight, both})
	}
	return out
}

// lengthsOf is the lengths of codes by counts, none above most.
func lengthsOf(counts []int, most int) []int {
	counts = slices.Clone(counts)
	used := 0
	for _, n := range counts {
		used += min(n, 1)
	}
	if used == 1 {
		counts[slices.Index(counts, 0)] = 1
	}
	for slices.Max(depths(counts)) > most {
		for i := range counts {
			counts[i] = (counts[i] + 1) / 2
		}
	}
	return depths(counts)
}

// codesOf is each symbol's code, the first bit first: they are handed out from
// all zeros on, the shortest ones first.
func codesOf(lengths []int) []string {
	out := make([]string, len(lengths))
	room := 0
	for n := 1; n <= 15; n++ {
		for symbol, k := range lengths {
			if k != n {
				continue
			}
			for i := range n {
				out[symbol] += string(rune('0' + room>>(14-i)&1))
			}
			room += 1 << (15 - n)
		}
	}
	return out
}

// span is one line of RFC 1951's lists of lengths and distances, up to what a
// text of MaxText bytes has.
type span struct {
	symbol, bits, first, last int
}

func lengthSpans() []span {
	return []span{
		{257, 0, 3, 3}, {258, 0, 4, 4}, {259, 0, 5, 5}, {260, 0, 6, 6}, {261, 0, 7, 7},
		{262, 0, 8, 8}, {263, 0, 9, 9}, {264, 0, 10, 10}, {265, 1, 11, 12}, {266, 1, 13, 14},
		{267, 1, 15, 16}, {268, 1, 17, 18}, {269, 2, 19, 22}, {270, 2, 23, 26}, {271, 2, 27, 30},
		{272, 2, 31, 34}, {273, 3, 35, 42}, {274, 3, 43, 50}, {275, 3, 51, 58}, {276, 3, 59, 66},
		{277, 4, 67, 82}, {278, 4, 83, 98}, {279, 4, 99, 114}, {280, 4, 115, 130}, {281, 5, 131, 162},
		{282, 5, 163, 194}, {283, 5, 195, 226}, {284, 5, 227, 257}, {285, 0, 258, 258},
	}
}

func distSpans() []span {
	return []span{
		{0, 0, 1, 1}, {1, 0, 2, 2}, {2, 0, 3, 3}, {3, 0, 4, 4}, {4, 1, 5, 6}, {5, 1, 7, 8},
		{6, 2, 9, 12}, {7, 2, 13, 16}, {8, 3, 17, 24}, {9, 3, 25, 32}, {10, 4, 33, 48},
		{11, 4, 49, 64}, {12, 5, 65, 96}, {13, 5, 97, 128}, {14, 6, 129, 192}, {15, 6, 193, 256},
		{16, 7, 257, 384},
	}
}

// spanOf is the symbol of a length or distance, and its extra bits as a row.
func spanOf(spans []span, n int) (int, string) {
	for _, x := range spans {
		if x.first <= n && n <= x.last {
			return x.symbol, number(n-x.first, x.bits)
		}
	}
	panic("no symbol")
}

// bodyRow is the bits of tokens and the end.
func bodyRow(ts []api.Token, forBytes []int, forDists []int) string {
	bytes, dists := codesOf(forBytes), codesOf(forDists)
	row := ""
	for _, t := range ts {
		if t.Len == 0 {
			row += bytes[t.Lit]
			continue
		}
		symbol, more := spanOf(lengthSpans(), t.Len)
		row += bytes[symbol] + more
		symbol, more = spanOf(distSpans(), t.Dist)
		row += dists[symbol] + more
	}
	return row + bytes[256]
}

func fixedRow(ts []api.Token) string {
	lengths := slices.Repeat([]int{8}, 288)
	for i := 144; i < 256; i++ {
		lengths[i] = 9
	}
	for i := 256; i < 280; i++ {
		lengths[i] = 7
	}
	return "110" + bodyRow(ts, lengths, slices.Repeat([]int{5}, 32))
}

// codeLengths is those of both parts of a dynamic block, all of them.
func codeLengths(ts []api.Token) ([]int, []int) {
	bytes, dists := make([]int, 286), make([]int, 30)
	bytes[256] = 1
	for _, t := range ts {
		if t.Len == 0 {
			bytes[t.Lit]++
			continue
		}
		symbol, _ := spanOf(lengthSpans(), t.Len)
		bytes[symbol]++
		symbol, _ = spanOf(distSpans(), t.Dist)
		dists[symbol]++
	}
	return lengthsOf(bytes, 15), lengthsOf(dists, 15)
}

// without cuts zeros at the end off.
func without(lengths []int, least int) []int {
	for len(lengths) > least && lengths[len(lengths)-1] == 0 {
		lengths = lengths[:len(lengths)-1]
	}
	return lengths
}

// often is how often each length is told.
func often(lengths ...[]int) []int {
	out := make([]int, 19)
	for _, n := range slices.Concat(lengths...) {
		out[n]++
	}
	return out
}

func dynamicRow(ts []api.Token) string {
	forBytes, forDists := codeLengths(ts)
	first, second := without(forBytes, 257), without(forDists, 1)
	small := lengthsOf(often(first, second), 7)
	var ranked []int
	for _, symbol := range []int{16, 17, 18, 0, 8, 7, 9, 6, 10, 5, 11, 4, 12, 3, 13, 2, 14, 1, 15} {
		ranked = append(ranked, small[symbol])
	}
	ranked = without(ranked, 4)
	row := "101" + number(len(first)-257, 5) + number(len(second)-1, 5) + number(len(ranked)-4, 4)
	for _, n := range ranked {
		row += number(n, 3)
	}
	codes := codesOf(small)
	for _, n := range slices.Concat(first, second) {
		row += codes[n]
	}
	return row + bodyRow(ts, forBytes, forDists)
}

func storedBytes(s string) string {
	n := len(s)
	return string([]byte{1, byte(n), byte(n >> 8), ^byte(n), ^byte(n >> 8)}) + s
}

// textOf is the text of tokens that may be: a copy is its piece, again and
// again, cut.
func textOf(ts []api.Token) string {
	s := ""
	for _, t := range ts {
		if t.Len == 0 {
			s += string([]byte{byte(t.Lit)})
			continue
		}
		piece := s[len(s)-t.Dist:]
		s += strings.Repeat(piece, t.Len/t.Dist+1)[:t.Len]
	}
	return s
}
