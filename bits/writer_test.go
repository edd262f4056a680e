package bits_test

import (
	"math"
	"testing"

	"portage/api"
	"portage/bits"
)

// holds fails unless w has that many bits and that text.
func holds(t *testing.T, w *bits.Writer, length int, text string) {
	t.Helper()
	if w.Len() != length || w.Text() != text {
		t.Fatalf("has %d bits, %q; want %d, %q", w.Len(), w.Text(), length, text)
	}
}

// filled gives a Writer of that many bits, all of them 1.
func filled(t *testing.T, length int) *bits.Writer {
	t.Helper()
	w := bits.New()
	for length > 0 {
		n := min(length, 16)
		if e := w.Put(1<<n-1, n); e != api.OK {
			t.Fatalf("Put of %d bits behind %d: %d", n, w.Len(), e)
		}
		length -= n
	}
	return w
}

func TestNewWriterIsEmpty(t *testing.T) {
	w := bits.New()
	if w == nil {
		t.Fatal("New gave nil")
	}
	holds(t, w, 0, "")
}

func TestPutLowestFirst(t *testing.T) {
	for _, c := range []struct {
		value, bits int
		text        string
	}{
		{0, 0, ""},
		{0, 1, "\x00"},
		{1, 1, "\x01"},
		{6, 3, "\x06"},
		{0xA5, 8, "\xA5"},
		{0x101, 9, "\x01\x01"},
		{0x7FFF, 15, "\xFF\x7F"},
		{0x1234, 16, "\x34\x12"},
		{0xFFFF, 16, "\xFF\xFF"},
	} {
		w := bits.New()
		if e := w.Put(c.value, c.bits); e != api.OK {
			t.Fatalf("Put(%d, %d): %d", c.value, c.bits, e)
		}
		holds(t, w, c.bits, c.text)
	}
}

func TestPutBehindOthers(t *testing.T) {
	w := bits.New()
	w.Put(1, 1)
	holds(t, w, 1, "\x01")
	w.Put(2, 2)
	holds(t, w, 3, "\x05")
	w.Put(0, 0)
	holds(t, w, 3, "\x05")
	w.Put(0x8001, 16)
	holds(t, w, 19, "\x0D\x00\x04")
	w.Put(31, 5)
	holds(t, w, 24, "\x0D\x00\xFC")
	w.Put(1, 1)
	holds(t, w, 25, "\x0D\x00\xFC\x01")
}

func TestCodeHighestFirst(t *testing.T) {
	for _, c := range []struct {
		code api.Code
		text string
	}{
		{api.Code{Bits: 1, Value: 0}, "\x00"},
		{api.Code{Bits: 1, Value: 1}, "\x01"},
		{api.Code{Bits: 3, Value: 6}, "\x03"},
		{api.Code{Bits: 3, Value: 1}, "\x04"},
		{api.Code{Bits: 8, Value: 0x30}, "\x0C"},
		{api.Code{Bits: 9, Value: 0x100}, "\x01\x00"},
		{api.Code{Bits: 15, Value: 1}, "\x00\x40"},
		{api.Code{Bits: 15, Value: 0x7FFF}, "\xFF\x7F"},
	} {
		w := bits.New()
		if e := w.Code(c.code); e != api.OK {
			t.Fatalf("Code(%v): %d", c.code, e)
		}
		holds(t, w, c.code.Bits, c.text)
	}
}

// A fixed block of RFC 1951 with the byte 'a' alone, as others write it.
func TestPutAndCodeTogether(t *testing.T) {
	w := bits.New()
	w.Put(1, 1)
	w.Put(1, 2)
	w.Code(api.Code{Bits: 8, Value: 0x30 + 'a'})
	w.Code(api.Code{Bits: 7, Value: 0})
	holds(t, w, 18, "\x4B\x04\x00")
}

func TestWriterAlign(t *testing.T) {
	w := bits.New()
	for length, c := range []struct {
		aligned int
		text    string
	}{
		{0, ""}, {8, "\x01"}, {8, "\x03"}, {8, "\x07"}, {8, "\x0F"}, {8, "\x1F"}, {8, "\x3F"}, {8, "\x7F"},
		{8, "\xFF"}, {16, "\xFF\x01"},
	} {
		w = filled(t, length)
		for range 2 {
			if e := w.Align(); e != api.OK {
				t.Fatalf("Align behind %d: %d", length, e)
			}
			holds(t, w, c.aligned, c.text)
		}
	}
	w.Put(5, 3)
	holds(t, w, 19, "\xFF\x01\x05")
}

func TestPutWrong(t *testing.T) {
	for _, c := range [][2]int{
		{0, -1}, {0, 17}, {0, 64}, {0, math.MinInt}, {0, math.MaxInt},
		{1, 0}, {-1, 0}, {2, 1}, {-1, 1}, {8, 3}, {-1, 8}, {256, 8},
		{-1, 16}, {65536, 16}, {math.MinInt, 16}, {math.MaxInt, 16}, {1 << 32, 16},
	} {
		w := filled(t, 3)
		if e := w.Put(c[0], c[1]); e != api.ErrBitsForm {
			t.Errorf("Put(%d, %d): %d", c[0], c[1], e)
		}
		holds(t, w, 3, "\x07")
		w.Put(2, 2)
		holds(t, w, 5, "\x17")
	}
}

func TestPutEdgesOfValues(t *testing.T) {
	for n := range 17 {
		w := bits.New()
		if e := w.Put(1<<n-1, n); e != api.OK || w.Len() != n {
			t.Errorf("Put(%d, %d): %d", 1<<n-1, n, e)
		}
		if e := w.Put(1<<n, n); e != api.ErrBitsForm || w.Len() != n {
			t.Errorf("Put(%d, %d): %d", 1<<n, n, e)
		}
	}
}

func TestCodeWrong(t *testing.T) {
	for _, c := range []api.Code{
		{}, {Value: 1}, {Bits: -1}, {Bits: 16}, {Bits: math.MinInt}, {Bits: math.MaxInt},
		{Bits: 1, Value: 2}, {Bits: 1, Value: -1}, {Bits: 15, Value: 1 << 15},
		{Bits: 15, Value: math.MaxInt}, {Bits: 15, Value: math.MinInt},
	} {
		w := filled(t, 3)
		if e := w.Code(c); e != api.ErrBitsForm {
			t.Errorf("Code(%v): %d", c, e)
		}
		holds(t, w, 3, "\x07")
		w.Code(api.Code{Bits: 2, Value: 1})
		holds(t, w, 5, "\x17")
	}
}

func TestCodeEdgesOfValues(t *testing.T) {
	for n := 1; n <= api.MaxBits; n++ {
		w := bits.New()
		if e := w.Code(api.Code{Bits: n, Value: 1<<n - 1}); e != api.OK || w.Len() != n {
			t.Errorf("Code of %d bits: %d", n, e)
		}
		if e := w.Code(api.Code{Bits: n, Value: 1 << n}); e != api.ErrBitsForm || w.Len() != n {
			t.Errorf("Code of %d bits, too great: %d", n, e)
		}
	}
}

func TestWriterFull(t *testing.T) {
	const most = 8 * api.MaxBytes
	for n := 1; n <= 16; n++ {
		w := filled(t, most-n)
		if e := w.Put(1<<n-1, n); e != api.OK || w.Len() != most {
			t.Errorf("Put of the last %d bits: %d", n, e)
		}
		w = filled(t, most-n+1)
		text := w.Text()
		if e := w.Put(0, n); e != api.ErrBitsForm {
			t.Errorf("Put of %d bits, one too many: %d", n, e)
		}
		holds(t, w, most-n+1, text)
	}
	for n := 1; n <= api.MaxBits; n++ {
		w := filled(t, most-n)
		if e := w.Code(api.Code{Bits: n}); e != api.OK || w.Len() != most {
			t.Errorf("Code of the last %d bits: %d", n, e)
		}
		w = filled(t, most-n+1)
		text := w.Text()
		if e := w.Code(api.Code{Bits: n}); e != api.ErrBitsForm {
			t.Errorf("Code of %d bits, one too many: %d", n, e)
		}
		holds(t, w, most-n+1, text)
	}
}

func TestFullWriterTakesNothingMore(t *testing.T) {
	const most = 8 * api.MaxBytes
	w := filled(t, most-7)
	if e := w.Align(); e != api.OK || w.Len() != most || len(w.Text()) != api.MaxBytes {
		t.Fatalf("Align to the last bit: %d, %d bits, %d bytes", e, w.Len(), len(w.Text()))
	}
	text := w.Text()
	if e := w.Put(0, 0); e != api.OK {
		t.Errorf("Put of no bits: %d", e)
	}
	if e := w.Align(); e != api.OK {
		t.Errorf("Align: %d", e)
	}
	if e := w.Put(0, 1); e != api.ErrBitsForm {
		t.Errorf("Put: %d", e)
	}
	if e := w.Code(api.Code{Bits: 1}); e != api.ErrBitsForm {
		t.Errorf("Code: %d", e)
	}
	holds(t, w, most, text)
}

func TestWritersShareNothing(t *testing.T) {
	a, b := bits.New(), bits.New()
	a.Put(1, 1)
	text := a.Text()
	a.Put(127, 7)
	b.Put(2, 2)
	if text != "\x01" {
		t.Errorf("an answered text became %q", text)
	}
	holds(t, a, 8, "\xFF")
	holds(t, b, 2, "\x02")
}

func TestNilWriter(t *testing.T) {
	var w *bits.Writer
	for _, e := range []api.Errno{
		w.Put(0, 0), w.Put(1, 1), w.Put(0, 17), w.Put(-1, 1),
		w.Code(api.Code{}), w.Code(api.Code{Bits: 1}), w.Code(api.Code{Bits: 16}),
		w.Align(),
	} {
		if e != api.ErrNil {
			t.Errorf("a nil Writer answered %d", e)
		}
	}
	holds(t, w, 0, "")
}
