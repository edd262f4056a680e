package wire_test

import (
	"testing"

	"portage/wire"
)

func TestNumbersThereAndBack(t *testing.T) {
	var m wire.Maker
	rows := []struct{ value, width int }{
		{0x5070, 2}, {0, 0}, {255, 1}, {0, 4}, {1 << 20, 4}, {4294967295, 4}, {7, 1},
	}
	for _, row := range rows {
		m.Number(row.value, row.width)
	}
	want := "\x70\x50" + "\xff" + "\x00\x00\x00\x00" + "\x00\x00\x10\x00" + "\xff\xff\xff\xff" + "\x07"
	if m.Told() != want {
		t.Fatalf("%q, want %q", m.Told(), want)
	}
	taker := wire.Of(want)
	for i, row := range rows {
		if got := taker.Number(row.width); got != row.value {
			t.Errorf("row %d: %d, want %d", i, got, row.value)
		}
	}
	if got := taker.Number(4); got != 0 {
		t.Errorf("behind the end: %d", got)
	}
}

func TestTooFewBytes(t *testing.T) {
	taker := wire.Of("\x01\x02\x03")
	if got := taker.Number(2); got != 0x0201 {
		t.Errorf("%d", got)
	}
	if got := taker.Number(4); got != 3 {
		t.Errorf("%d, want what is left", got)
	}
	for range 3 {
		if got := taker.Number(1); got != 0 {
			t.Errorf("behind the end: %d", got)
		}
	}
}

func TestWhatWasToldStays(t *testing.T) {
	var m wire.Maker
	if m.Told() != "" {
		t.Errorf("%q of nothing", m.Told())
	}
	m.Number(1, 1)
	first := m.Told()
	m.Number(2, 1)
	if first != "\x01" || m.Told() != "\x01\x02" {
		t.Errorf("%q, %q", first, m.Told())
	}
}

func TestTextsBetweenNumbers(t *testing.T) {
	var m wire.Maker
	if m.Len() != 0 {
		t.Errorf("%d bytes of nothing", m.Len())
	}
	m.Text("PK\x03\x04")
	m.Number(20, 2)
	m.Text("")
	m.Text("\x00\xff\xc3")
	m.Number(5, 0)
	m.Number(0x010203, 4)
	want := "PK\x03\x04" + "\x14\x00" + "\x00\xff\xc3" + "\x03\x02\x01\x00"
	if m.Told() != want || m.Len() != len(want) {
		t.Errorf("%q, %d bytes, want %q", m.Told(), m.Len(), want)
	}
}

func TestTextsTaken(t *testing.T) {
	taker := wire.Of("PK\x03\x04" + "\x14\x00" + "a.txt" + "\xff\x00")
	if !taker.Begins("PK\x03\x04") || !taker.Begins("PK") || !taker.Begins("") || taker.Begins("PK\x01\x02") || taker.Begins("K") {
		t.Error("another beginning")
	}
	if got := taker.Text(4); got != "PK\x03\x04" {
		t.Errorf("%q", got)
	}
	if got := taker.Number(2); got != 20 {
		t.Errorf("%d", got)
	}
	if got := taker.Text(0); got != "" {
		t.Errorf("%q of no bytes", got)
	}
	if got := taker.Text(5); got != "a.txt" || taker.Begins("a") || !taker.Begins("\xff\x00") || taker.Begins("\xff\x00\x00") {
		t.Errorf("%q, or another beginning behind it", got)
	}
	if got := taker.Text(1 << 40); got != "\xff\x00" {
		t.Errorf("%q, want what is left", got)
	}
	if got := taker.Text(1); got != "" || taker.Number(2) != 0 || taker.Begins("a") || !taker.Begins("") {
		t.Errorf("%q behind the end", got)
	}
}
