package extra_test

import (
	"slices"
	"strings"
	"testing"

	"portage/api"
	"portage/extra"
)

// put writes bytes over those of s from a place on.
func put(s string, at int, bytes string) string {
	return s[:at] + bytes + s[at+len(bytes):]
}

// heads is some that the wrong texts are made of.
func heads() []api.Entry {
	return []api.Entry{
		plain(),
		head([]int{0, 0, 0, 0}, 1, 0, false),
		head([]int{full, full, full, full}, full, 3, true),
		head([]int{7, 0, 65536, 255}, 300, 2, true),
	}
}

// Of each length, the beginning of a head, with what else behind it.
func TestEachLength(t *testing.T) {
	for _, e := range heads() {
		s := written(e)
		for n := range len(s) {
			checkNoGet(t, "cut off", s[:n])
			checkNoGet(t, "its end", s[n+1:])
			checkNoGet(t, "one byte left out", s[:n]+s[n+1:])
			checkNoGet(t, "one byte too many", s[:n]+"\x00"+s[n:])
		}
		checkGet(t, s, e)
		for _, more := range []string{"\x00", "\x01", " ", "\n", s, strings.Repeat("\x00", 4), strings.Repeat("\x00", 100000)} {
			checkNoGet(t, "more behind", s+more)
		}
	}
	for n := range 60 {
		checkNoGet(t, "zeros", strings.Repeat("\x00", n))
		checkNoGet(t, "ones", strings.Repeat("\xff", n))
		checkNoGet(t, "pP", strings.Repeat("pP", n))
	}
}

func TestLeadingBytesTurned(t *testing.T) {
	for _, e := range heads() {
		s := written(e)
		for at := range 4 {
			for by := 1; by < 256; by++ {
				checkNoGet(t, "a leading byte turned", put(s, at, string([]byte{s[at] ^ byte(by)})))
			}
		}
		checkNoGet(t, "the highest byte of the id first", put(s, 0, "Pp"))
		checkNoGet(t, "the highest byte of the length first", put(s, 2, "\x00\x16"))
		checkNoGet(t, "all bytes counted", put(s, 2, "\x1a\x00"))
	}
}

// The counts begin at 4, 8, 12 and 16, the Stamp at 20.
func TestNumbersThatMayNotBe(t *testing.T) {
	for _, e := range heads() {
		s := written(e)
		for at := 4; at <= 20; at += 4 {
			for _, bytes := range []string{
				"\x01\x00\x10\x00", "\x00\x01\x10\x00", "\x00\x00\x11\x00", "\x00\x00\x20\x00", "\xff\xff\xff\x00",
				"\x00\x00\x00\x01", "\x01\x00\x00\x01", "\x00\x00\x10\x01", "\x00\x00\x00\x80", "\x05\x00\x00\x80",
				"\xff\xff\xff\x7f", "\xff\xff\xff\xff", "\x00\x00\x10\x80",
			} {
				checkNoGet(t, "above MaxCount", put(s, at, bytes))
			}
			checkNoGet(t, "the highest byte set", put(s, at+3, "\x01"))
			checkNoGet(t, "the highest bit set", put(s, at+3, "\x80"))
		}
		checkNoGet(t, "Stamp 0", put(s, 20, "\x00\x00\x00\x00"))
	}
}

func TestNodesAndLastBytes(t *testing.T) {
	for _, e := range heads() {
		s := written(e)
		for b := range 256 {
			byNode, byGone := put(s, 24, string([]byte{byte(b)})), put(s, 25, string([]byte{byte(b)}))
			if b < 4 {
				other := e
				other.Node = b
				checkGet(t, byNode, other)
			} else {
				checkNoGet(t, "Node", byNode)
			}
			if b < 2 {
				other := e
				other.Gone = b == 1
				checkGet(t, byGone, other)
			} else {
				checkNoGet(t, "the last byte", byGone)
			}
		}
	}
}

// mayBe tells whether a text is a head's, byte by byte and in its own way.
func mayBe(s string) bool {
	if len(s) != 26 || !strings.HasPrefix(s, "pP\x16\x00") || s[24] > 3 || s[25] > 1 {
		return false
	}
	for at := 4; at <= 20; at += 4 {
		// Of numbers in four bytes MaxCount is the only one from 2^20 on.
		if s[at+3] != 0 || s[at+2] > 16 || s[at+2] == 16 && (s[at] != 0 || s[at+1] != 0) {
			return false
		}
	}
	return s[20:24] != "\x00\x00\x00\x00"
}

// Each byte turned into each other one: what is read is what is written so.
func TestEachByteTurned(t *testing.T) {
	for _, e := range heads() {
		s := written(e)
		for at := range len(s) {
			for b := range 256 {
				turned := put(s, at, string([]byte{byte(b)}))
				got, err := extra.Get(turned)
				if (err == api.OK) != mayBe(turned) {
					t.Fatalf("P12.2: Get(%q): %d", turned, err)
				}
				if err != api.OK {
					checkNoGet(t, "a byte turned", turned)
					continue
				}
				if again, err := extra.Put(got); again != turned || err != api.OK {
					t.Fatalf("P12.2: Get(%q): %v, of which Put tells %q, %d", turned, got, again, err)
				}
			}
		}
	}
}

func TestWhatIsAnsweredIsJustTheHead(t *testing.T) {
	full := api.Entry{Name: "a.txt", Gone: true, Vec: []int{9, 8, 7, 6}, Stamp: 5, Node: 2, Method: 8, Packed: "xyz", Size: 4, Crc: 3}
	s, err := extra.Put(full)
	if err != api.OK {
		t.Fatalf("P12.1: %d", err)
	}
	got, err := extra.Get(s)
	if err != api.OK || !slices.Equal(got.Vec, full.Vec) || got.Stamp != 5 || got.Node != 2 || !got.Gone {
		t.Errorf("P12.2: %v, %d", got, err)
	}
	if got.Name != "" || got.Method != 0 || got.Packed != "" || got.Size != 0 || got.Crc != 0 {
		t.Errorf("R2: %v: fields that are of no head", got)
	}
}
