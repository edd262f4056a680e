// Package wire holds how numbers and pieces stand in texts, for the layers that
// write them there and those that read them: numbers the lowest byte first.
package wire

import "strings"

// Maker makes a text, piece by piece. Its zero value has nothing yet.
type Maker struct {
	text []byte
}

// Number puts the value's lowest bytes, so many of them.
func (m *Maker) Number(value int, width int) {
	for range width {
		m.text = append(m.text, byte(value))
		value >>= 8
	}
}

// Text puts a text as it is.
func (m *Maker) Text(s string) {
	m.text = append(m.text, s...)
}

// Len tells how many bytes were put.
func (m *Maker) Len() int {
	return len(m.text)
}

// Told tells all that was put.
func (m *Maker) Told() string {
	return string(m.text)
}

// Taker takes numbers and pieces off a text, from its beginning on.
type Taker struct {
	rest string
}

// Of makes the taker of a text.
func Of(s string) Taker {
	return Taker{rest: s}
}

// Number takes the number of so many bytes. Bytes that are not there are 0:
// who takes asks in the end whether the text is what would have been made.
func (t *Taker) Number(width int) int {
	value := 0
	for place, b := range []byte(t.piece(width)) {
		value |= int(b) << (8 * place)
	}
	return value
}

// Text takes a piece of so many bytes, or of those that are there. It is a
// copy: who takes may answer it.
func (t *Taker) Text(width int) string {
	return strings.Clone(t.piece(width))
}

// Begins tells whether what is left begins with a mark; it takes nothing.
func (t *Taker) Begins(mark string) bool {
	return strings.HasPrefix(t.rest, mark)
}

func (t *Taker) piece(width int) string {
	width = min(width, len(t.rest))
	piece := t.rest[:width]
	t.rest = t.rest[width:]
	return piece
}
