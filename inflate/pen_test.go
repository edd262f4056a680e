package inflate_test

import (
	"compress/flate"
	"slices"
	"strings"
	"testing"

	"portage/api"
	"portage/inflate"
	"portage/table"
)

// pen writes streams bit by bit, whether they are right or wrong.
type pen struct {
	out  []byte
	bits int
}

func (p *pen) bit(b int) {
	if p.bits%8 == 0 {
		p.out = append(p.out, 0)
	}
	p.out[p.bits/8] |= byte(b << (p.bits % 8))
	p.bits++
}

// put writes a number, the lowest bit first.
func (p *pen) put(x int, width int) *pen {
	for i := range width {
		p.bit(x >> i & 1)
	}
	return p
}

// row writes bits as they are told by 0 and 1; blanks are none.
func (p *pen) row(s string) *pen {
	for _, c := range s {
		if c != ' ' {
			p.bit(int(c - '0'))
		}
	}
	return p
}

// raw writes whole bytes.
func (p *pen) raw(s string) *pen {
	for i := range len(s) {
		p.put(int(s[i]), 8)
	}
	return p
}

func (p *pen) align(fill int) *pen {
	for p.bits%8 > 0 {
		p.bit(fill)
	}
	return p
}

func (p *pen) text() string {
	return string(p.out)
}

// head begins a block.
func (p *pen) head(last int, kind int) *pen {
	return p.put(last, 1).put(kind, 2)
}

// stored is a whole block of that kind.
func (p *pen) stored(last int, s string) *pen {
	return p.head(last, 0).align(0).put(len(s), 16).put(len(s)^0xffff, 16).raw(s)
}

// codes tells symbols' codes by their lengths, as rows of 0 and 1: they are
// handed out from all zeros on, the shortest ones first.
func codes(lengths []int) map[int]string {
	out := map[int]string{}
	code, width := 0, 0
	for n := 1; n <= 15; n++ {
		for symbol, k := range lengths {
			if k != n {
				continue
			}
			if width > 0 {
				code = (code + 1) << (n - width)
			}
			width = n
			row := ""
			for i := n - 1; i >= 0; i-- {
				row += string(rune('0' + code>>i&1))
			}
			out[symbol] = row
		}
	}
	return out
}

// book is the codes by which a block tells bytes and copies.
type book struct {
	bytes, dists []int
}

func fixedBook() book {
	lengths := slices.Repeat([]int{8}, 288)
	for i := 144; i < 256; i++ {
		lengths[i] = 9
	}
	for i := 256; i < 280; i++ {
		lengths[i] = 7
	}
	return book{lengths, slices.Repeat([]int{5}, 32)}
}

// sparse is lengths of which all are 0 but for those told.
func sparse(many int, told map[int]int) []int {
	out := make([]int, many)
	for symbol, n := range told {
		out[symbol] = n
	}
	return out
}

// plainBook has codes for some bytes, the end, four lengths and all distances.
func plainBook() book {
	return book{
		sparse(286, map[int]int{'a': 3, 'b': 3, 'c': 3, 256: 3, 257: 3, 264: 3, 284: 3, 285: 3}),
		append([]int{4, 4}, slices.Repeat([]int{5}, 28)...),
	}
}

// symbol writes its code; a test that has none for it is itself wrong.
func (p *pen) symbol(lengths []int, symbol int) *pen {
	row, is := codes(lengths)[symbol]
	if !is {
		panic("no code")
	}
	return p.row(row)
}

// body writes bytes and copies, and the end.
func (p *pen) body(b book, ts ...api.Token) *pen {
	for _, t := range ts {
		if t.Len == 0 {
			p.symbol(b.bytes, t.Lit)
			continue
		}
		length, _ := table.Length(t.Len)
		p.symbol(b.bytes, length.Sym).put(length.Value, length.Bits)
		dist, _ := table.Dist(t.Dist)
		p.symbol(b.dists, dist.Sym).put(dist.Value, dist.Bits)
	}
	return p.symbol(b.bytes, 256)
}

// fixed is a whole block of that kind.
func (p *pen) fixed(last int, ts ...api.Token) *pen {
	return p.head(last, 1).body(fixedBook(), ts...)
}

// order is that in which the lengths of the lengths' codes stand.
func order() []int {
	return []int{16, 17, 18, 0, 8, 7, 9, 6, 10, 5, 11, 4, 12, 3, 13, 2, 14, 1, 15}
}

// open begins a dynamic block: how many lengths of both parts there are, and
// the lengths of their codes, as many as must be told.
func (p *pen) open(last int, bytes int, dists int, small []int) *pen {
	many := 19
	for many > 4 && small[order()[many-1]] == 0 {
		many--
	}
	p.head(last, 2).put(bytes-257, 5).put(dists-1, 5).put(many-4, 4)
	for _, symbol := range order()[:many] {
		p.put(small[symbol], 3)
	}
	return p
}

// evenSmall has a code of 4 bits for each length, and none that repeats.
func evenSmall() []int {
	return append(slices.Repeat([]int{4}, 16), 0, 0, 0)
}

// lengths begins a dynamic block that tells all lengths one by one.
func (p *pen) lengths(last int, b book) *pen {
	p.open(last, len(b.bytes), len(b.dists), evenSmall())
	for _, n := range slices.Concat(b.bytes, b.dists) {
		p.symbol(evenSmall(), n)
	}
	return p
}

// dynamic is a whole block of that kind.
func (p *pen) dynamic(last int, b book, ts ...api.Token) *pen {
	return p.lengths(last, b).body(b, ts...)
}

// lits is a token for each byte of s.
func lits(s string) []api.Token {
	var ts []api.Token
	for i := range len(s) {
		ts = append(ts, api.Token{Lit: int(s[i])})
	}
	return ts
}

func run(n int, dist int) api.Token {
	return api.Token{Len: n, Dist: dist}
}

// with is the bytes of s, and copies behind them.
func with(s string, ts ...api.Token) []api.Token {
	return append(lits(s), ts...)
}

// packed is a stream by another program, in blocks of up to 700 bytes.
func packed(t *testing.T, s string, level int) string {
	t.Helper()
	var out strings.Builder
	w, err := flate.NewWriter(&out, level)
	if err != nil {
		t.Fatal(err)
	}
	for _, piece := range slices.Collect(slices.Chunk([]byte(s), 700)) {
		if _, err := w.Write(piece); err != nil {
			t.Fatal(err)
		}
		if err := w.Flush(); err != nil {
			t.Fatal(err)
		}
	}
	if err := w.Close(); err != nil {
		t.Fatal(err)
	}
	return out.String()
}

// brief keeps what a test prints short.
func brief(s string) string {
	return s[:min(len(s), 40)]
}

// takes asks for a text and how many bytes of s are taken for it.
func takes(t *testing.T, what string, s string, most int, want string, took int) {
	t.Helper()
	got, n, e := inflate.Inflate(s, most)
	if got != want || n != took || e != api.OK {
		t.Errorf("P7.1: %s, most %d: %q (%d bytes), %d, %d, want %q (%d bytes), %d",
			what, most, brief(got), len(got), n, e, brief(want), len(want), took)
	}
}

// refuses asks for an error, and for nothing besides.
func refuses(t *testing.T, what string, s string, most int, want api.Errno) {
	t.Helper()
	got, n, e := inflate.Inflate(s, most)
	if got != "" || n != 0 || e != want {
		t.Errorf("P7.1: %s, most %d: %q (%d bytes), %d, %d, want nothing and %d",
			what, most, brief(got), len(got), n, e, want)
	}
}

// faulty asks s, that goes wrong behind so many bytes of text: whatever would
// stand behind the bound ahead of the fault is told first.
func faulty(t *testing.T, what string, s string, ahead int) {
	t.Helper()
	for most := range ahead {
		refuses(t, what, s, most, api.ErrInflateLong)
	}
	for _, most := range []int{ahead, ahead + 1, ahead + 300, api.MaxBytes} {
		refuses(t, what, s, most, api.ErrInflateForm)
	}
}
