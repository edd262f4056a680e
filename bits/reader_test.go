package bits_test

import (
	"math"
	"testing"

	"portage/api"
	"portage/bits"
)

// gets fails unless the next bits of r are value, and r stands behind them then.
func gets(t *testing.T, r *bits.Reader, n int, value int) {
	t.Helper()
	at := r.At()
	got, e := r.Get(n)
	if got != value || e != api.OK {
		t.Fatalf("Get(%d) at %d: %d, %d; want %d", n, at, got, e, value)
	}
	if r.At() != at+n {
		t.Fatalf("Get(%d) at %d: stands at %d", n, at, r.At())
	}
}

// refuses fails unless Get answers that error and r stands where it stood.
func refuses(t *testing.T, r *bits.Reader, n int, want api.Errno) {
	t.Helper()
	at := r.At()
	if got, e := r.Get(n); got != 0 || e != want || r.At() != at {
		t.Fatalf("Get(%d) at %d: %d, %d, stands at %d; want %d", n, at, got, e, r.At(), want)
	}
}

// alignsTo fails unless r's Align brings it there.
func alignsTo(t *testing.T, r *bits.Reader, want int) {
	t.Helper()
	if e := r.Align(); e != api.OK || r.At() != want {
		t.Fatalf("Align: %d, stands at %d; want %d", e, r.At(), want)
	}
}

func TestGetLowestFirst(t *testing.T) {
	r := bits.Of("\x0D\x00\xFC\x01\x34\x12")
	if r == nil || r.At() != 0 {
		t.Fatal("a new Reader does not stand at the first bit")
	}
	gets(t, r, 1, 1)
	gets(t, r, 2, 2)
	gets(t, r, 0, 0)
	gets(t, r, 16, 0x8001)
	gets(t, r, 5, 31)
	gets(t, r, 8, 1)
	gets(t, r, 16, 0x1234)
	refuses(t, r, 1, api.ErrBitsEnd)
}

func TestGetEachLength(t *testing.T) {
	for n := range 17 {
		r := bits.Of("\xFF\xFF\x00\x00")
		gets(t, r, n, 1<<n-1)
		gets(t, r, 16-n, 1<<(16-n)-1)
		gets(t, r, n, 0)
	}
}

func TestReaderAlign(t *testing.T) {
	for n, want := range []int{0, 8, 8, 8, 8, 8, 8, 8, 8, 16, 16, 16, 16, 16, 16, 16, 16} {
		r := bits.Of("\x00\x00\xA5")
		gets(t, r, n, 0)
		alignsTo(t, r, want)
		alignsTo(t, r, want)
		gets(t, r, 16-want, 0)
		gets(t, r, 8, 0xA5)
		alignsTo(t, r, 24)
		refuses(t, r, 1, api.ErrBitsEnd)
	}
}

func TestReaderAtTheEnd(t *testing.T) {
	r := bits.Of("\x00\x80")
	gets(t, r, 9, 0)
	for n := 8; n <= 16; n++ {
		refuses(t, r, n, api.ErrBitsEnd)
	}
	gets(t, r, 7, 64)
	gets(t, r, 0, 0)
	for n := 1; n <= 16; n++ {
		refuses(t, r, n, api.ErrBitsEnd)
	}
	alignsTo(t, r, 16)
}

func TestReaderAlignsToTheEnd(t *testing.T) {
	r := bits.Of("\x01")
	gets(t, r, 1, 1)
	alignsTo(t, r, 8)
	refuses(t, r, 1, api.ErrBitsEnd)
	gets(t, r, 0, 0)
}

func TestReaderOfTheEmptyText(t *testing.T) {
	r := bits.Of("")
	gets(t, r, 0, 0)
	alignsTo(t, r, 0)
	refuses(t, r, 1, api.ErrBitsEnd)
	refuses(t, r, 16, api.ErrBitsEnd)
	refuses(t, r, 17, api.ErrBitsForm)
	refuses(t, r, -1, api.ErrBitsForm)
}

func TestGetWrong(t *testing.T) {
	r := bits.Of("\xF1\xFF\xFF")
	gets(t, r, 1, 1)
	for _, n := range []int{-1, 17, 64, math.MinInt, math.MaxInt} {
		refuses(t, r, n, api.ErrBitsForm)
	}
	gets(t, r, 4, 8)
}

// A Reader has no bound of its own: a text may be longer than what a Writer takes.
func TestReaderOfALongText(t *testing.T) {
	long := make([]byte, api.MaxBytes+1)
	long[api.MaxBytes] = 0xC3
	r := bits.Of(string(long))
	for range api.MaxBytes / 2 {
		gets(t, r, 16, 0)
	}
	gets(t, r, 8, 0xC3)
	refuses(t, r, 1, api.ErrBitsEnd)
}

func TestReadersOfOneTextStandApart(t *testing.T) {
	const text = "\x5A\xA5"
	a, b := bits.Of(text), bits.Of(text)
	gets(t, a, 12, 0x55A)
	gets(t, b, 8, 0x5A)
	gets(t, a, 4, 0xA)
	gets(t, b, 8, 0xA5)
}

func TestReaderTellsWhatAWriterHas(t *testing.T) {
	w := bits.New()
	for n := range 17 {
		w.Put(0x9D3B&(1<<n-1), n)
	}
	w.Align()
	w.Code(api.Code{Bits: 4, Value: 1})
	r := bits.Of(w.Text())
	for n := range 17 {
		gets(t, r, n, 0x9D3B&(1<<n-1))
	}
	alignsTo(t, r, 136)
	gets(t, r, 4, 8)
	gets(t, r, 4, 0)
}

func TestNilReader(t *testing.T) {
	var r *bits.Reader
	for _, n := range []int{0, 1, 16, 17, -1} {
		refuses(t, r, n, api.ErrNil)
	}
	if e := r.Align(); e != api.ErrNil {
		t.Errorf("Align: %d", e)
	}
	if r.At() != 0 {
		t.Errorf("At: %d", r.At())
	}
}
