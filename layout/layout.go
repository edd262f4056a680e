// Package layout holds what the layers that read blocks of RFC 1951, or ZIP
// archives, and those that write them must agree on.
package layout

// The kinds of blocks; there is no other one.
const (
	KindStored  = 0
	KindFixed   = 1
	KindDynamic = 2
)

// End is the symbol behind a block's last byte or copy.
const End = 256

// How many symbols a block may have codes for: of bytes, the end and copies'
// lengths; of distances; of all lengths that a dynamic block tells.
const (
	MostBytes = 286
	MostDists = 30
	MostSmall = 19
)

// The fewest lengths that a dynamic block tells: of both parts, and of the
// codes by which it tells these.
const (
	LeastBytes = 257
	LeastDists = 1
	LeastSmall = 4
)

// Turned, by exclusive or, turns all bits of how many stored bytes there are.
const Turned = 1<<16 - 1

// Row tells the order in which a dynamic block tells the lengths of the codes
// by which it tells all others.
func Row() [MostSmall]int {
	return [MostSmall]int{16, 17, 18, 0, 8, 7, 9, 6, 10, 5, 11, 4, 12, 3, 13, 2, 14, 1, 15}
}

// FixedDists tells how long each distance's code is where a block brings no
// lengths of its own.
func FixedDists() []int {
	lengths := make([]int, MostDists)
	for symbol := range lengths {
		lengths[symbol] = 5
	}
	return lengths
}
