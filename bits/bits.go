// Package bits puts bits into bytes and gets them back, the lowest bit of each byte first: see DOC.md, chapter 1.
package bits

import (
	"portage/api"
)

const (
	mostAtOnce = 16
	mostInAll  = 8 * api.MaxBytes
)

// Writer has bits; its zero value has none.
type Writer struct {
	bytes []byte
	count int
}

// New gives a Writer that has no bits.
func New() *Writer {
	return &Writer{}
}

// Put adds value's bits, the lowest one first.
func (w *Writer) Put(value int, bits int) api.Errno {
	if w == nil {
		return api.ErrNil
	}
	if bits < 0 || bits > mostAtOnce || !w.takes(value, bits) {
		return api.ErrBitsForm
	}
	lowestFirst(value, bits, w.add)
	return api.OK
}

// Code adds the bits of c's Value, the highest one first.
func (w *Writer) Code(c api.Code) api.Errno {
	if w == nil {
		return api.ErrNil
	}
	if c.Bits < 1 || c.Bits > api.MaxBits || !w.takes(c.Value, c.Bits) {
		return api.ErrBitsForm
	}
	highestFirst(c.Value, c.Bits, w.add)
	return api.OK
}

// Align adds bits 0 up to a whole byte.
func (w *Writer) Align() api.Errno {
	if w == nil {
		return api.ErrNil
	}
	// The last byte's other bits are 0 already, and mostInAll is whole bytes.
	w.count = wholeBytes(w.count)
	return api.OK
}

// Len tells how many bits there are.
func (w *Writer) Len() int {
	if w == nil {
		return 0
	}
	return w.count
}

// Text tells the bytes; the last one's other bits are 0.
func (w *Writer) Text() string {
	if w == nil {
		return ""
	}
	return string(w.bytes)
}

// takes asks for a number of bits that was held against its bounds: a shift by any other one may panic.
func (w *Writer) takes(value int, bits int) bool {
	return value >= 0 && value < 1<<bits && w.count+bits <= mostInAll
}

// add puts one bit, 0 or 1, behind the others.
func (w *Writer) add(bit int) {
	if w.count%8 == 0 {
		w.bytes = append(w.bytes, 0)
	}
	w.bytes[w.count/8] |= byte(bit << (w.count % 8))
	w.count++
}

// Reader stands at a bit of a text; its zero value reads the empty one.
type Reader struct {
	text string
	at   int
}

// Of gives a Reader that stands at the first bit of s.
func Of(s string) *Reader {
	return &Reader{text: s}
}

// Get tells the next bits, the lowest one first, and goes behind them.
func (r *Reader) Get(bits int) (int, api.Errno) {
	if r == nil {
		return 0, api.ErrNil
	}
	if bits < 0 || bits > mostAtOnce {
		return 0, api.ErrBitsForm
	}
	if bits > 8*len(r.text)-r.at {
		return 0, api.ErrBitsEnd
	}
	return gather(bits, r.next), api.OK
}

// Align goes on to a whole byte.
func (r *Reader) Align() api.Errno {
	if r == nil {
		return api.ErrNil
	}
	r.at = wholeBytes(r.at)
	return api.OK
}

// At tells how many bits are behind the Reader.
func (r *Reader) At() int {
	if r == nil {
		return 0
	}
	return r.at
}

// next goes behind one bit, which must be there.
func (r *Reader) next() int {
	bit := int(r.text[r.at/8]) >> (r.at % 8) & 1
	r.at++
	return bit
}

func lowestFirst(value int, bits int, add func(bit int)) {
	for i := range bits {
		add(value >> i & 1)
	}
}

func highestFirst(value int, bits int, add func(bit int)) {
	for i := range bits {
		add(value >> (bits - 1 - i) & 1)
	}
}

func gather(bits int, next func() int) int {
	value := 0
	for i := range bits {
		value |= next() << i
	}
	return value
}

// wholeBytes rounds a number of bits up.
func wholeBytes(bits int) int {
	return (bits + 7) / 8 * 8
}
