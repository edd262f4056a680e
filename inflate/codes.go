package inflate

import (
	"slices"

	"portage/api"
	"portage/huff"
	"portage/layout"
)

// The symbols that repeat a length; those below are lengths themselves.
const (
	repeatLast = 16
	repeatNone = 17
	repeatMore = 18
)

// finder has the first code of each length, and the symbols of the codes from
// that one on.
type finder struct {
	first   [api.MaxBits + 1]int
	symbols [api.MaxBits + 1][]int
}

// finderOf makes the finder of the codes that have these lengths, which must
// be some that there is room for: of others it finds none.
func finderOf(lengths []int) *finder {
	codes, _ := huff.Codes(lengths)
	f := &finder{}
	for symbol, c := range codes {
		if c.Bits > 0 {
			f.add(symbol, c)
		}
	}
	return f
}

// add takes a symbol in; of one length, the codes come in their order.
func (f *finder) add(symbol int, c api.Code) {
	if len(f.symbols[c.Bits]) == 0 {
		f.first[c.Bits] = c.Value
	}
	f.symbols[c.Bits] = append(f.symbols[c.Bits], symbol)
}

// find tells whose code that is.
func (f *finder) find(width int, value int) (int, bool) {
	place := value - f.first[width]
	if place < 0 || place >= len(f.symbols[width]) {
		return 0, false
	}
	return f.symbols[width][place], true
}

// book is what a block is read by: codes of bytes and copies' lengths, and of
// distances.
type book struct {
	bytes *finder
	dists *finder
}

// bookOf makes the book of both parts' lengths.
func bookOf(forBytes []int, forDists []int) *book {
	return &book{bytes: finderOf(forBytes), dists: finderOf(forDists)}
}

// symbol reads bits until they are a code.
func (in *stream) symbol(f *finder) (int, api.Errno) {
	value := 0
	for width := 1; width <= api.MaxBits; width++ {
		bit, err := in.number(1)
		if err != api.OK {
			return 0, err
		}
		value = value<<1 | bit
		if symbol, is := f.find(width, value); is {
			return symbol, api.OK
		}
	}
	return 0, api.ErrInflateForm
}

// lengths reads those of both parts of a dynamic block: of bytes and copies'
// lengths, and of distances.
func (in *stream) lengths() ([]int, []int, api.Errno) {
	bytes, err := in.above(layout.LeastBytes, 5)
	if err != api.OK {
		return nil, nil, err
	}
	dists, err := in.above(layout.LeastDists, 5)
	if err != api.OK {
		return nil, nil, err
	}
	if bytes > layout.MostBytes || dists > layout.MostDists {
		return nil, nil, api.ErrInflateForm
	}
	f, err := in.lengthFinder()
	if err != api.OK {
		return nil, nil, err
	}
	// A run may go from the first part into the second one.
	all, err := in.runs(f, bytes+dists)
	if err != api.OK {
		return nil, nil, err
	}
	forBytes, forDists := all[:bytes], all[bytes:]
	if !mayTellBytes(forBytes) || !mayTellDists(forDists) {
		return nil, nil, api.ErrInflateForm
	}
	return forBytes, forDists, api.OK
}

// lengthFinder reads the codes by which all lengths are told.
func (in *stream) lengthFinder() (*finder, api.Errno) {
	many, err := in.above(layout.LeastSmall, 4)
	if err != api.OK {
		return nil, err
	}
	row := layout.Row()
	lengths := make([]int, len(row))
	for i := range many {
		lengths[row[i]], err = in.number(3)
		if err != api.OK {
			return nil, err
		}
	}
	if huff.Check(lengths) != api.OK {
		return nil, api.ErrInflateForm
	}
	return finderOf(lengths), api.OK
}

// runs reads so many lengths.
func (in *stream) runs(f *finder, many int) ([]int, api.Errno) {
	var all []int
	for len(all) < many {
		symbol, err := in.symbol(f)
		if err != api.OK {
			return nil, err
		}
		run, err := in.run(symbol, all)
		if err != api.OK {
			return nil, err
		}
		all = append(all, run...)
	}
	if len(all) > many {
		return nil, api.ErrInflateForm
	}
	return all, api.OK
}

// run tells the lengths that a symbol stands for behind those ahead.
func (in *stream) run(symbol int, ahead []int) ([]int, api.Errno) {
	switch symbol {
	case repeatLast:
		if len(ahead) == 0 {
			return nil, api.ErrInflateForm
		}
		return in.repeated(ahead[len(ahead)-1], 3, 2)
	case repeatNone:
		return in.repeated(0, 3, 3)
	case repeatMore:
		return in.repeated(0, 11, 7)
	}
	return []int{symbol}, api.OK
}

// repeated reads how often a length comes, and tells it as often.
func (in *stream) repeated(length int, least int, width int) ([]int, api.Errno) {
	times, err := in.above(least, width)
	if err != api.OK {
		return nil, err
	}
	return slices.Repeat([]int{length}, times), api.OK
}

// mayTellBytes asks for the end's code too: without it no block would end.
func mayTellBytes(lengths []int) bool {
	return huff.Check(lengths) == api.OK && lengths[layout.End] > 0
}

// mayTellDists lets besides no code at all, and just one of one bit: what a
// block with no copy, or with copies from one distance alone, needs.
func mayTellDists(lengths []int) bool {
	sum := 0
	for _, n := range lengths {
		sum += n
	}
	return sum <= 1 || huff.Check(lengths) == api.OK
}
