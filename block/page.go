package block

import (
	"slices"

	"portage/api"
	"portage/bits"
	"portage/huff"
	"portage/layout"
	"portage/limit"
)

// widest is the most bits of a code by which lengths are told, as its own
// length is told by three bits.
const widest = 7

// page is a writer, with the codes of bytes, the end and copies' lengths, and
// of distances. Its writer's errors are not asked: MaxText bytes come to far
// fewer bits than a writer takes, and each code is one that was made.
type page struct {
	*bits.Writer
	bytes []api.Code
	dists []api.Code
}

// begin opens a block of a kind, that is the last one.
func begin(kind int) *page {
	p := &page{Writer: bits.New()}
	p.Put(1, 1)
	p.Put(kind, 2)
	return p
}

// tokens writes them, and the end, by the codes that have these lengths.
func (p *page) tokens(ts []api.Token, forBytes []int, forDists []int) {
	p.bytes, _ = huff.Codes(forBytes)
	p.dists, _ = huff.Codes(forDists)
	each(ts, p.putByte, p.putCopy)
	p.putByte(layout.End)
}

func (p *page) putByte(symbol int) {
	p.Code(p.bytes[symbol])
}

func (p *page) putCopy(length api.Sym, dist api.Sym) {
	p.Code(p.bytes[length.Sym])
	p.Put(length.Value, length.Bits)
	p.Code(p.dists[dist.Sym])
	p.Put(dist.Value, dist.Bits)
}

// lengths writes those of both parts, and ahead of them the codes by which
// they are told.
func (p *page) lengths(forBytes []int, forDists []int) {
	forBytes = upToLast(forBytes, layout.LeastBytes)
	forDists = upToLast(forDists, layout.LeastDists)
	all := slices.Concat(forBytes, forDists)
	small := smallLengths(all)
	row := upToLast(inRow(small), layout.LeastSmall)
	p.Put(len(forBytes)-layout.LeastBytes, 5)
	p.Put(len(forDists)-layout.LeastDists, 5)
	p.Put(len(row)-layout.LeastSmall, 4)
	for _, n := range row {
		p.Put(n, 3)
	}
	codes, _ := huff.Codes(small)
	for _, n := range all {
		p.Code(codes[n])
	}
}

// upToLast leaves out those behind the last one that is not 0, but keeps as
// many as least.
func upToLast(lengths []int, least int) []int {
	many := len(lengths)
	for many > least && lengths[many-1] == 0 {
		many--
	}
	return lengths[:many]
}

// smallLengths tells how long the code of each length is, by how often it
// comes; no symbol that repeats one is used.
func smallLengths(all []int) []int {
	var often [layout.MostSmall]int
	for _, n := range all {
		often[n]++
	}
	small, _ := limit.Lengths(often[:], widest)
	return small
}

// inRow tells the lengths in the order in which a block tells them.
func inRow(small []int) []int {
	var out []int
	for _, symbol := range layout.Row() {
		out = append(out, small[symbol])
	}
	return out
}
