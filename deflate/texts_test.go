package deflate_test

import (
	"compress/flate"
	"math/rand"
	"slices"
	"strings"
	"testing"

	"portage/api"
	"portage/block"
	"portage/layout"
	"portage/match"
)

// high is n different bytes, 112 at most, whose fixed codes have 9 bits.
func high(n int) string {
	b := make([]byte, n)
	for i := range b {
		b[i] = byte(255 - i)
	}
	return string(b)
}

// few is n bytes of so many kinds, mixed.
func few(n int, kinds int) string {
	b := make([]byte, n)
	x := uint32(1)
	for i := range b {
		x = x*1664525 + 1013904223
		b[i] = byte(int(x>>24) % kinds)
	}
	return string(b)
}

// unlike is a text of n bytes, 512 at most, in which no three come again.
func unlike(n int) string {
	var b []byte
	for i := 0; len(b) < n; i++ {
		b = append(b, byte(i), byte(i+1))
	}
	return string(b[:n])
}

// byChance is a text of at most most bytes: some kinds of bytes, and pieces
// that come again.
func byChance(r *rand.Rand, most int) string {
	var b []byte
	kinds, again := 1+r.Intn(256), r.Intn(8)
	n := r.Intn(most + 1)
	for len(b) < n {
		if len(b) > 0 && r.Intn(16) < again {
			from := r.Intn(len(b))
			b = append(b, b[from:min(len(b), from+r.Intn(30))]...)
			continue
		}
		b = append(b, byte(r.Intn(kinds)))
	}
	return string(b[:n])
}

// three is the streams among which the shortest one is sought, in their row.
func three(t *testing.T, s string) [3]string {
	t.Helper()
	ts, e := match.Tokens(s)
	stored, e1 := block.Stored(s)
	fixed, e2 := block.Fixed(ts)
	dynamic, e3 := block.Dynamic(ts)
	if e != api.OK || e1 != api.OK || e2 != api.OK || e3 != api.OK {
		t.Fatalf("%q: %d, %d, %d, %d", s, e, e1, e2, e3)
	}
	return [3]string{stored, fixed, dynamic}
}

// first tells the kind of the shortest stream, of equally long ones the first
// one.
func first(streams [3]string) int {
	switch s, f, d := len(streams[0]), len(streams[1]), len(streams[2]); {
	case s <= f && s <= d:
		return layout.KindStored
	case f <= d:
		return layout.KindFixed
	}
	return layout.KindDynamic
}

// byOther is a stream by another program, in blocks of up to 100 bytes.
func byOther(t *testing.T, s string, level int) string {
	t.Helper()
	var out strings.Builder
	w, err := flate.NewWriter(&out, level)
	if err != nil {
		t.Fatal(err)
	}
	for _, piece := range slices.Collect(slices.Chunk([]byte(s), 100)) {
		if _, err := w.Write(piece); err != nil {
			t.Fatal(err)
		}
		if err := w.Flush(); err != nil {
			t.Fatal(err)
		}
	}
	if err := w.Close(); err != nil {
		t.Fatal(err)
	}
	return out.String()
}
