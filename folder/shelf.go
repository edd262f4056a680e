package folder

import (
	"slices"
	"strings"

	"portage/api"
	"portage/entry"
	"portage/zipput"
)

// may tells whether f may be.
func may(f api.Folder) bool {
	return fits(f) && all(f.Entries, entry.May)
}

// fits tells whether f may be written, within MaxImage.
func fits(f api.Folder) bool {
	_, err := zipput.Put(f)
	return err == api.OK
}

// all tells whether each entry is so.
func all(es []api.Entry, is func(e api.Entry) bool) bool {
	for _, e := range es {
		if !is(e) {
			return false
		}
	}
	return true
}

// find tells the place of a name's entry, or where it would stand.
func find(f api.Folder, called string) (int, bool) {
	return slices.BinarySearchFunc(f.Entries, called, func(e api.Entry, called string) int {
		return strings.Compare(e.Name, called)
	})
}

// last tells what was written last of a name: where nothing was, an entry that
// nobody has written yet.
func last(f api.Folder, called string) api.Entry {
	if place, is := find(f, called); is {
		return f.Entries[place]
	}
	return api.Entry{Name: called, Vec: make([]int, api.MaxNodes)}
}

// isFile tells whether e was written, and is not gone.
func isFile(e api.Entry) bool {
	return e.Stamp > 0 && !e.Gone
}

// shelf is a folder that is being changed, whose memory is all its own.
type shelf struct {
	api.Folder
}

// holding tells a shelf with copies of the entries of f.
func holding(f api.Folder) *shelf {
	s := new(shelf)
	for _, e := range f.Entries {
		s.put(copied(e))
	}
	return s
}

func copied(e api.Entry) api.Entry {
	e.Name, e.Vec, e.Packed = strings.Clone(e.Name), slices.Clone(e.Vec), strings.Clone(e.Packed)
	return e
}

// put takes e itself for the entry of its name, whatever stood there.
func (s *shelf) put(e api.Entry) {
	place, is := find(s.Folder, e.Name)
	if !is {
		s.Entries = slices.Insert(s.Entries, place, e)
		return
	}
	s.Entries[place] = e
}

// merge takes, for the entry of its name, what e and that come to.
func (s *shelf) merge(e api.Entry) {
	place, is := find(s.Folder, e.Name)
	if !is {
		s.put(copied(e))
		return
	}
	// Entries that may be, of one name, are always merged.
	s.Entries[place], _ = entry.Merge(s.Entries[place], e)
}

// behind tells what the shelf comes to as entries are taken, one behind the
// other.
func (s *shelf) behind(es []api.Entry, take func(e api.Entry)) (api.Folder, api.Errno) {
	for _, e := range es {
		take(e)
		// No name is ever left out again: what comes behind would be taken for
		// nothing.
		if len(s.Entries) > api.MaxEntries {
			break
		}
	}
	if !fits(s.Folder) {
		return api.Folder{}, api.ErrFolderFull
	}
	return s.Folder, api.OK
}
