package zipput

import (
	"portage/api"
	"portage/extra"
	"portage/layout"
	"portage/wire"
)

const (
	short = layout.ShortBytes
	long  = layout.LongBytes
)

// version, 2.0, is the first one of the format that knows of deflated bytes.
const version = 20

// maker puts an archive's parts, and keeps where first ones begin, as second
// ones tell it.
type maker struct {
	wire.Maker
	begins [api.MaxEntries]int
}

// archive tells entries that may be written.
func archive(entries []api.Entry) string {
	var m maker
	each(entries, m.first)
	begin := m.Len()
	each(entries, m.second)
	m.end(len(entries), begin)
	return m.Told()
}

// each puts one part of every entry.
func each(entries []api.Entry, put func(place int, e api.Entry)) {
	for place, e := range entries {
		put(place, e)
	}
}

func (m *maker) first(place int, e api.Entry) {
	m.begins[place] = m.Len()
	m.Text(layout.FirstMark)
	m.common(e)
	m.called(e)
	m.Text(e.Packed)
}

func (m *maker) second(place int, e api.Entry) {
	m.Text(layout.SecondMark)
	m.Number(version, short)
	m.common(e)
	// No remark, the only disk, nothing of what is inside.
	m.Number(0, short)
	m.Number(0, short)
	m.Number(0, short)
	m.Number(0, long)
	m.Number(m.begins[place], long)
	m.called(e)
}

// common puts what both parts of an entry tell.
func (m *maker) common(e api.Entry) {
	m.Number(version, short)
	m.Number(0, short)
	m.Number(e.Method, short)
	// Neither a time nor a day: there is no clock.
	m.Number(0, short)
	m.Number(0, short)
	m.Number(e.Crc, long)
	m.Number(len(e.Packed), long)
	m.Number(e.Size, long)
	m.Number(len(e.Name), short)
	m.Number(api.Extra, short)
}

// called puts an entry's name and its head; a head that may not be never
// comes here.
func (m *maker) called(e api.Entry) {
	m.Text(e.Name)
	head, _ := extra.Put(e)
	m.Text(head)
}

// end puts what stands behind all parts: how many entries there are, and
// where their second parts begin.
func (m *maker) end(many int, begin int) {
	bytes := m.Len() - begin
	m.Text(layout.EndMark)
	// The only disk, on which the second parts begin.
	m.Number(0, short)
	m.Number(0, short)
	m.Number(many, short)
	m.Number(many, short)
	m.Number(bytes, long)
	m.Number(begin, long)
	m.Number(0, short)
}
