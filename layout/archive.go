package layout

// What an archive's parts begin with: the first ones, each with its entry's
// bytes, the second ones, and the end.
const (
	FirstMark  = "PK\x03\x04"
	SecondMark = "PK\x01\x02"
	EndMark    = "PK\x05\x06"
)

// How many bytes an archive's numbers have.
const (
	ShortBytes = 2
	LongBytes  = 4
)
