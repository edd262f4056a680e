package inflate_test

import (
	"bytes"
	"compress/flate"
	"errors"
	"io"
	"math/rand"
	"strings"
	"testing"

	"portage/api"
	"portage/inflate"
)

// byOther is what another program tells of s: the text, or what it tells of it
// ahead of a fault, how many bytes it took, and the fault.
func byOther(s string) (string, int, error) {
	from := bytes.NewReader([]byte(s))
	text, err := io.ReadAll(io.LimitReader(flate.NewReader(from), api.MaxBytes+1000))
	return string(text), len(s) - from.Len(), err
}

// chance makes a text of up to so many bytes, some of it more than once.
func chance(r *rand.Rand, most int) string {
	s := ""
	for n := r.Intn(most + 1); len(s) < n; {
		switch r.Intn(3) {
		case 0:
			for range r.Intn(80) {
				s += string([]byte{byte(r.Intn(256))})
			}
		case 1:
			s += strings.Repeat("abcdef"[r.Intn(5):], 1+r.Intn(60))
		default:
			s += s[r.Intn(len(s)+1):]
		}
		s = s[:min(len(s), n)]
	}
	return s
}

func TestStreamsOfAnother(t *testing.T) {
	r := rand.New(rand.NewSource(7))
	for range 150 {
		s := chance(r, 5000)
		for _, level := range []int{flate.HuffmanOnly, flate.NoCompression, flate.BestSpeed, flate.DefaultCompression, flate.BestCompression} {
			x := packed(t, s, level)
			takes(t, "another's stream", x+"behind"[r.Intn(6):], len(s)+r.Intn(3), s, len(x))
			if len(s) > 0 {
				refuses(t, "another's stream", x, r.Intn(len(s)), api.ErrInflateLong)
			}
		}
	}
}

// spoil turns some bits of a stream, or cuts it off.
func spoil(r *rand.Rand, x string) string {
	b := []byte(x)
	for range 1 + r.Intn(3) {
		at := r.Intn(len(b))
		// The first bytes hold a block's head: they are turned more often.
		if r.Intn(2) == 0 {
			at = r.Intn(min(len(b), 20))
		}
		b[at] ^= 1 << r.Intn(8)
	}
	if r.Intn(4) == 0 {
		b = b[:r.Intn(len(b))]
	}
	return string(b)
}

// checkLikeOther holds what is told of any bytes against what another program
// tells. That one lets some codes besides, which leave room: of these nothing
// is asked here.
func checkLikeOther(t *testing.T, x string) (read bool) {
	t.Helper()
	text, took, fault := byOther(x)
	_, _, e := inflate.Inflate(x, api.MaxBytes)
	switch {
	case len(text) > api.MaxBytes:
		if e == api.OK {
			t.Errorf("P7.1: %x is told, and is %d bytes", x, len(text))
		}
	case fault == nil && e == api.ErrInflateForm:
	case fault == nil:
		takes(t, "any bytes", x, len(text), text, took)
		return true
	default:
		refuses(t, "any bytes", x, api.MaxBytes, api.ErrInflateForm)
		if len(text) > 0 {
			refuses(t, "any bytes", x, len(text)-1, api.ErrInflateLong)
		}
		// Ahead of a stream's end the other one asks for more bits than a code
		// has, so that it may tell less.
		if !errors.Is(fault, io.ErrUnexpectedEOF) {
			refuses(t, "any bytes", x, len(text), api.ErrInflateForm)
		}
	}
	return false
}

func TestAnyBytes(t *testing.T) {
	r := rand.New(rand.NewSource(8))
	read, refused := 0, 0
	count := func(is bool) {
		if is {
			read++
		} else {
			refused++
		}
	}
	for range 4000 {
		b := make([]byte, r.Intn(60))
		r.Read(b)
		count(checkLikeOther(t, string(b)))
	}
	for range 1500 {
		count(checkLikeOther(t, spoil(r, packed(t, chance(r, 600), r.Intn(12)-2))))
	}
	if read < 200 || refused < 200 {
		t.Errorf("the test is wrong: %d are read, %d are not", read, refused)
	}
}
