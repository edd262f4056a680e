// Package wire holds how numbers and pieces stand in texts, for the layers that
// write them there and those that read them: numbers the lowest byte first.
package wire

// Maker makes a text, piece by piece. Its zero value has nothing yet.
type Maker struct {
	text []byte
}

// Number puts the value's lowest bytes, so many of them.
func (m *Maker) Number(value int, width int) {
	for range width {
		m.text = append(m.text, byte(value))
		value >>= 8
	}
}

// Text puts a text as it is.
func (m *Maker) Text(s string) {
	m.text = append(m.text, s...)
}

// Len tells how many bytes were put.
func (m *Maker) Len() int {
	return len(m.text)
}

// Told tells all that was put.
func (m *Maker) Told() string {
	return string(m.text)
}

// Taker takes numbers off a text, from its beginning on.
type Taker struct {
	rest string
}

// Of makes the taker of a text.
func Of(s string) Taker {
	return Taker{rest: s}
}

// Number takes the number of so many bytes. Bytes that are not there are 0:
// who takes asks in the end whether the text is what would have been made.
func (t *Taker) Number(width int) int {
	value := 0
	for place := range min(width, len(t.rest)) {
		value |= int(t.rest[place]) << (8 * place)
	}
	t.rest = t.rest[min(width, len(t.rest)):]
	return value
}
