package zipget_test

import (
	"archive/zip"
	"bytes"
	"slices"
	"strconv"
	"strings"
	"testing"

	"portage/api"
	"portage/zipget"
	"portage/zipput"
)

// digits writes a number in so many bytes, by division.
func digits(value int, width int) string {
	text := ""
	for range width {
		text += string([]byte{byte(value % 256)})
		value /= 256
	}
	return text
}

// head writes the head of an entry, whether it may be or not.
func head(e api.Entry) string {
	s := "pP\x16\x00"
	for _, count := range e.Vec {
		s += digits(count, 4)
	}
	last := "\x00"
	if e.Gone {
		last = "\x01"
	}
	return s + digits(e.Stamp, 4) + digits(e.Node, 1) + last
}

// pieces is what an archive is made of, whether its folder may be written or
// not.
type pieces struct {
	firsts  []string
	seconds []string
	end     string
}

func piecesOf(f api.Folder) pieces {
	var p pieces
	first, second := 0, 0
	for _, e := range f.Entries {
		common := "\x14\x00" + "\x00\x00" + digits(e.Method, 2) + "\x00\x00" + "\x00\x00" + digits(e.Crc, 4) +
			digits(len(e.Packed), 4) + digits(e.Size, 4) + digits(len(e.Name), 2) + "\x1a\x00"
		p.seconds = append(p.seconds, "PK\x01\x02"+"\x14\x00"+common+"\x00\x00"+"\x00\x00"+"\x00\x00"+"\x00\x00\x00\x00"+digits(first, 4)+e.Name+head(e))
		p.firsts = append(p.firsts, "PK\x03\x04"+common+e.Name+head(e)+e.Packed)
		first += len(p.firsts[len(p.firsts)-1])
		second += len(p.seconds[len(p.seconds)-1])
	}
	p.end = endOf(len(f.Entries), len(f.Entries), second, first)
	return p
}

// endOf writes an end that tells these numbers.
func endOf(many int, again int, bytes int, begin int) string {
	return "PK\x05\x06" + "\x00\x00" + "\x00\x00" + digits(many, 2) + digits(again, 2) + digits(bytes, 4) + digits(begin, 4) + "\x00\x00"
}

// text tells the archive that the pieces make.
func (p pieces) text() string {
	return strings.Join(p.firsts, "") + strings.Join(p.seconds, "") + p.end
}

func written(f api.Folder) string {
	return piecesOf(f).text()
}

// put writes bytes over those of s from a place on.
func put(s string, at int, bytes string) string {
	return s[:at] + bytes + s[at+len(bytes):]
}

// some is folders that the wrong texts are made of.
func some() []api.Folder {
	return []api.Folder{
		{}, of(stored("a", "text")), of(gone("abcdefgh")), of(deflated("m", text(40), 300)), of(stored("a", "")),
		of(gone("a"), gone("b")), named("a", "b", "c"), named("-", "..a", "0", "9", "z", "zz"),
	}
}

func TestPiecesAreThoseOfLayer13(t *testing.T) {
	for _, f := range some() {
		if s, err := zipput.Put(f); s != written(f) || err != api.OK {
			t.Errorf("the test is wrong: %q, %d, want %q", written(f), err, s)
		}
		checkText(t, "as it is", written(f), f)
	}
}

// Too few bytes, or too many, at each place.
func TestEachLength(t *testing.T) {
	checkNone(t, "the empty text", "")
	for _, f := range some() {
		s := written(f)
		for at := range len(s) {
			checkNone(t, "cut off", s[:at])
			checkNone(t, "its end", s[at+1:])
			checkNone(t, "one byte left out", s[:at]+s[at+1:])
			for _, more := range []string{"\x00", "\xff", "P", s[at : at+1], endOfNone} {
				checkNone(t, "more ahead of a byte", s[:at]+more+s[at:])
			}
		}
		for _, more := range []string{"\x00", "\n", "P", endOfNone, s, strings.Repeat("\x00", 5000)} {
			checkNone(t, "more behind", s+more)
		}
	}
	for n := range 5000 {
		if n != 0 && n%100 > 5 {
			continue
		}
		checkNone(t, "zeros", strings.Repeat("\x00", n))
		checkNone(t, "ones", strings.Repeat("\xff", n))
		checkNone(t, "first marks", strings.Repeat("PK\x03\x04", n))
		checkNone(t, "second marks", strings.Repeat("PK\x01\x02", n))
		checkNone(t, "marks of the end", strings.Repeat("PK\x05\x06", n))
	}
}

// packedAt tells in whose Packed a place of the archive stands, and where.
func packedAt(f api.Folder, at int) (int, int, bool) {
	begin := 0
	for i, e := range f.Entries {
		begin += 30 + len(e.Name) + 26
		if begin <= at && at < begin+len(e.Packed) {
			return i, at - begin, true
		}
		begin += len(e.Packed)
	}
	return 0, 0, false
}

// turns tells by what each byte is turned, by exclusive or: by all where the
// folder is small.
func turns(f api.Folder) []int {
	if len(f.Entries) > 1 {
		return []int{1, 2, 4, 8, 16, 32, 64, 128, 3, 0x55, 0xaa, 255}
	}
	var all []int
	for by := 1; by < 256; by++ {
		all = append(all, by)
	}
	return all
}

// All but the bytes of Packed is told twice, or is the same in all archives,
// or hangs on the lengths: with one byte turned it is no folder's text.
func TestEachByteTurned(t *testing.T) {
	for _, f := range some() {
		s := written(f)
		for at := range len(s) {
			for _, by := range turns(f) {
				turned := put(s, at, string([]byte{s[at] ^ byte(by)}))
				i, place, is := packedAt(f, at)
				if !is {
					checkNone(t, "byte "+strconv.Itoa(at)+" turned", turned)
					continue
				}
				other := slices.Clone(f.Entries)
				other[i].Packed = put(other[i].Packed, place, string([]byte{s[at] ^ byte(by)}))
				checkText(t, "a byte of Packed turned", turned, of(other...))
			}
		}
	}
}

// twice is an entry's bytes that both parts tell, taken to pieces here in
// another way; false, where a byte is not what it is in all archives.
func twice(e api.Entry, told string) (api.Entry, bool) {
	number := func(at int, width int) int {
		value := 0
		for i := width; i > 0; i-- {
			value = value*256 + int(told[at+i-1])
		}
		return value
	}
	name := 26 + len(e.Name)
	e.Method, e.Crc, e.Size, e.Name = number(4, 2), number(10, 4), number(18, 4), told[26:name]
	e.Vec = []int{number(name+4, 4), number(name+8, 4), number(name+12, 4), number(name+16, 4)}
	e.Stamp, e.Node, e.Gone = number(name+20, 4), number(name+24, 1), number(name+25, 1) == 1
	return e, number(0, 2) == 20 && number(2, 2) == 0 && number(6, 4) == 0 && number(14, 4) == len(e.Packed) &&
		number(22, 2) == len(e.Name) && number(24, 2) == 26 && number(name, 4) == 0x165070 && number(name+25, 1) < 2
}

// A byte that both parts tell, turned in both, is read if its folder may be
// written.
func TestEachByteTurnedInBothParts(t *testing.T) {
	read := 0
	for _, f := range some() {
		for i, e := range f.Entries {
			told := piecesOf(f).firsts[i][4 : 30+len(e.Name)+26]
			for at := range len(told) {
				for _, by := range turns(f) {
					both := put(told, at, string([]byte{told[at] ^ byte(by)}))
					p := piecesOf(f)
					p.firsts[i] = p.firsts[i][:4] + both + e.Packed
					p.seconds[i] = p.seconds[i][:6] + both[:26] + p.seconds[i][32:46] + both[26:]
					other := of(slices.Clone(f.Entries)...)
					turned, is := twice(e, both)
					other.Entries[i] = turned
					if !is || !zipput.May(other) {
						checkNone(t, "byte "+strconv.Itoa(at)+" turned in both parts", p.text())
						continue
					}
					read++
					checkText(t, "turned in both parts", p.text(), other)
				}
			}
		}
	}
	if read < 3000 {
		t.Errorf("the test is wrong: %d read", read)
	}
}

// What a folder may not have is not read, though both parts tell it alike.
func TestFoldersThatMayNotBeWritten(t *testing.T) {
	wrong := map[string]api.Folder{
		"names that fall": of(gone("b"), gone("a")), "names that fall last": named("a", "c", "b"), "one name twice": of(gone("a"), gone("a")),
		"there, and gone": of(stored("a", "x"), gone("a")), "names that fall by length": of(gone("ab"), gone("a")),
	}
	for what, turn := range map[string]func(e *api.Entry){
		"no name": func(e *api.Entry) { e.Name = "" }, "a name of 9": func(e *api.Entry) { e.Name = "abcdefghi" },
		"a dot": func(e *api.Entry) { e.Name = "." }, "two dots": func(e *api.Entry) { e.Name = ".." },
		"a great letter": func(e *api.Entry) { e.Name = "mA" }, "a path": func(e *api.Entry) { e.Name = "m/a" },
		"a long name": func(e *api.Entry) { e.Name = strings.Repeat("m", 300) },
		"a count":     func(e *api.Entry) { e.Vec[3] = full + 1 }, "the greatest count": func(e *api.Entry) { e.Vec[0] = sums },
		"no Stamp": func(e *api.Entry) { e.Stamp = 0 }, "Stamp": func(e *api.Entry) { e.Stamp = full + 1 },
		"Node 4": func(e *api.Entry) { e.Node = 4 }, "Node 255": func(e *api.Entry) { e.Node = 255 },
		"Method 1": func(e *api.Entry) { e.Method = 1 }, "Method 9": func(e *api.Entry) { e.Method = 9 },
		"Method 2^15": func(e *api.Entry) { e.Method = 1 << 15 }, "Size 301": func(e *api.Entry) { e.Size = most + 1 },
		"the greatest Size": func(e *api.Entry) { e.Size = sums }, "301 bytes": func(e *api.Entry) { e.Packed, e.Size = text(most+1), most+1 },
		"301 bytes, Size 300": func(e *api.Entry) { e.Packed, e.Size = text(most+1), most },
	} {
		for _, e := range []api.Entry{stored("m", "abc"), deflated("m", "abc", 3), gone("m")} {
			wrong[what+", alone, by method "+strconv.Itoa(e.Method)+strconv.FormatBool(e.Gone)] = of(with(e, turn))
			wrong[what+", between, by method "+strconv.Itoa(e.Method)+strconv.FormatBool(e.Gone)] = of(gone("-"), with(e, turn), stored("z", "last"))
		}
	}
	for what, e := range map[string]api.Entry{
		"one byte more than Size": with(stored("a", "abc"), func(e *api.Entry) { e.Size = 2 }), "one byte fewer": with(stored("a", "abc"), func(e *api.Entry) { e.Size = 4 }),
		"gone, with bytes": with(gone("a"), func(e *api.Entry) { e.Packed, e.Size = "x", 1 }), "gone, with a sum": with(gone("a"), func(e *api.Entry) { e.Crc = 1 }),
		"gone, with a Size": with(gone("a"), func(e *api.Entry) { e.Size = 1 }), "gone, deflated": with(gone("a"), func(e *api.Entry) { e.Method = 8 }),
	} {
		wrong[what] = of(e)
	}
	for what, f := range wrong {
		if zipput.May(f) {
			t.Errorf("the test is wrong: %s", what)
		}
		checkNone(t, what, written(f))
	}
}

func TestTooManyEntries(t *testing.T) {
	for _, n := range []int{7, 8, 9, 13, 20, 31, 100, 257, 1000} {
		for _, e := range []api.Entry{stored("", ""), gone(""), deflated("", "x", 1)} {
			var f api.Folder
			for i := range n {
				f.Entries = append(f.Entries, with(e, func(e *api.Entry) { e.Name = "f" + strconv.Itoa(1000+i) }))
			}
			checkNone(t, strconv.Itoa(n)+" entries", written(f))
			// The end tells of no more than may be.
			p := piecesOf(f)
			six := piecesOf(of(f.Entries[:6]...))
			checkNone(t, "the second parts of six", strings.Join(p.firsts, "")+strings.Join(six.seconds, "")+six.end)
			checkNone(t, "the first parts of six", strings.Join(six.firsts, "")+strings.Join(p.seconds, "")+p.end)
		}
	}
}

func TestLongTexts(t *testing.T) {
	for _, n := range []int{most + 1, 4000, 4096, 5000, 70000} {
		checkNone(t, strconv.Itoa(n)+" bytes stored", written(of(stored("a", text(n)))))
		checkNone(t, strconv.Itoa(n)+" bytes deflated", written(of(deflated("a", text(n), 9))))
		checkNone(t, strconv.Itoa(n)+" bytes, the last ones", written(of(gone("-"), stored("a", text(n)))))
	}
	s := written(named("a", "b", "c"))
	for _, n := range []int{4095, 4096, 4097, 8192, 1 << 20} {
		more := strings.Repeat("\x00", n-len(s))
		checkNone(t, "zeros behind", s+more)
		checkNone(t, "zeros ahead", more+s)
		checkNone(t, "a remark", s[:len(s)-2]+digits(n-len(s), 2)+more)
		checkNone(t, "first parts", strings.Repeat(piecesOf(named("a")).firsts[0], n/50))
	}
}

func TestOtherMarks(t *testing.T) {
	f := named("a", "b", "c")
	marks := []string{"PK\x03\x04", "PK\x01\x02", "PK\x05\x06", "PK\x07\x08", "PK\x06\x06", "PK\x06\x07", "PK\x05\x05", "PK\x04\x03", "KP\x03\x04", "pk\x03\x04", "\x04\x03KP", "\x00\x00\x00\x00", "Rar!"}
	for _, mark := range marks {
		for i := range f.Entries {
			p := piecesOf(f)
			if mark != "PK\x03\x04" {
				p.firsts[i] = mark + p.firsts[i][4:]
				checkNone(t, "a first part's mark", p.text())
			}
			p = piecesOf(f)
			if mark != "PK\x01\x02" {
				p.seconds[i] = mark + p.seconds[i][4:]
				checkNone(t, "a second part's mark", p.text())
			}
		}
		p := piecesOf(f)
		if mark != "PK\x05\x06" {
			p.end = mark + p.end[4:]
			checkNone(t, "the end's mark", p.text())
			checkNone(t, "the end's mark, alone", mark+endOfNone[4:])
		}
	}
}

// A length stands in the first part at 26 (the name's), 28 (the head's) or 18
// (Packed's), in the second one two bytes on.
func TestLengthsThatAreOthers(t *testing.T) {
	checkLengths := func(what string, at int, width int, lengths []int, had func(e api.Entry) int) {
		for _, f := range []api.Folder{of(stored("abc", "text")), of(deflated("abc", "", 1)), of(gone("abc")), named("abc", "b", "cdefghij", "d")} {
			for i, e := range f.Entries {
				for _, n := range append(lengths, had(e)+1, had(e)-1, had(e)+256) {
					if n < 0 || n == had(e) {
						continue
					}
					p := piecesOf(f)
					p.firsts[i] = put(p.firsts[i], at, digits(n, width))
					checkNone(t, what+" "+strconv.Itoa(n), p.text())
					p.seconds[i] = put(p.seconds[i], at+2, digits(n, width))
					checkNone(t, what+" "+strconv.Itoa(n)+" in both parts", p.text())
					p.firsts[i] = piecesOf(f).firsts[i]
					checkNone(t, what+" "+strconv.Itoa(n)+" in the second part", p.text())
					checkNone(t, what+" "+strconv.Itoa(n)+", cut off", put(p.firsts[0], at, digits(n, width)))
				}
			}
		}
	}
	shorts := []int{0, 1, 2, 7, 8, 9, 27, 60, 200, 255, 256, 4096, 32767, 32768, 65535}
	checkLengths("the name's length", 26, 2, shorts, func(e api.Entry) int { return len(e.Name) })
	checkLengths("the head's length", 28, 2, shorts, func(e api.Entry) int { return 26 })
	longs := append(slices.Clone(shorts), 300, 301, 65536, 1<<24, 1<<31-1, 1<<31, sums-1, sums)
	checkLengths("the length of Packed", 18, 4, longs, func(e api.Entry) int { return len(e.Packed) })
}

func TestPartsInAnotherOrder(t *testing.T) {
	p := piecesOf(named("a", "b", "c"))
	first, second := strings.Join(p.firsts, ""), strings.Join(p.seconds, "")
	a, b, c := p.firsts[0], p.firsts[1], p.firsts[2]
	x, y, z := p.seconds[0], p.seconds[1], p.seconds[2]
	for what, s := range map[string]string{
		"the second parts first": second + first + p.end, "the end first": p.end + first + second, "the end between": first + p.end + second,
		"the end twice": first + second + p.end + p.end, "no end": first + second, "no first parts": second + p.end, "no second parts": first + p.end,
		"just first parts": first, "just second parts": second, "just the end": p.end, "entry by entry": a + x + b + y + c + z + p.end,
		"first parts turned round": c + b + a + second + p.end, "second parts turned round": first + z + y + x + p.end,
		"two first parts changed": b + a + c + second + p.end, "two second parts changed": first + x + z + y + p.end,
		"one first part too few": b + c + second + p.end, "the last first part too few": a + b + second + p.end,
		"one second part too few": first + y + z + p.end, "the last second part too few": first + x + y + p.end,
		"one first part twice": a + a + b + c + second + p.end, "one second part twice": first + x + x + y + z + p.end,
		"all first parts twice": first + first + second + p.end, "all second parts twice": first + second + second + p.end,
		"all twice": first + second + p.end + first + second + p.end, "the end of none": first + second + endOfNone, "the end of none ahead": endOfNone + first + second + p.end,
		"a second part ahead": x + first + second + p.end, "a first part behind": first + second + a + p.end,
	} {
		checkNone(t, what, s)
	}
	checkText(t, "in their order", first+second+p.end, named("a", "b", "c"))
}

// Each part may be by itself, but the two are not one entry's.
func TestSecondPartsUnlikeFirstOnes(t *testing.T) {
	base := of(stored("-", "low"), deflated("m", "abcd", 4), gone("z"))
	for what, turn := range map[string]func(e *api.Entry){
		"Name": func(e *api.Entry) { e.Name = "n" }, "Vec": func(e *api.Entry) { e.Vec[2]++ }, "Stamp": func(e *api.Entry) { e.Stamp++ },
		"Node": func(e *api.Entry) { e.Node = 2 }, "Gone": func(e *api.Entry) { *e = with(gone("m"), func(e *api.Entry) { e.Name = "m" }) },
		"Method": func(e *api.Entry) { e.Method = 0 }, "Packed": func(e *api.Entry) { e.Packed += "e" }, "no Packed": func(e *api.Entry) { e.Packed = "" },
		"Size": func(e *api.Entry) { e.Size++ }, "Crc": func(e *api.Entry) { e.Crc++ }, "a longer name": func(e *api.Entry) { e.Name = "mm" },
	} {
		other := of(base.Entries[0], with(base.Entries[1], turn), base.Entries[2])
		checkText(t, what+", both alike", written(other), other)
		p, q := piecesOf(base), piecesOf(other)
		mixed := pieces{firsts: p.firsts, seconds: slices.Clone(p.seconds), end: p.end}
		mixed.seconds[1] = q.seconds[1]
		checkNone(t, what+", one second part", mixed.text())
		checkNone(t, what+", all second parts", pieces{p.firsts, q.seconds, p.end}.text())
		checkNone(t, what+", all second parts and the end", pieces{p.firsts, q.seconds, q.end}.text())
		checkNone(t, what+", all first parts", pieces{q.firsts, p.seconds, p.end}.text())
	}
	none, one := piecesOf(api.Folder{}), piecesOf(base)
	checkNone(t, "no first parts", pieces{none.firsts, one.seconds, one.end}.text())
	checkNone(t, "no second parts", pieces{one.firsts, none.seconds, none.end}.text())
}

func TestSecondPartsThatTellOfOtherPlaces(t *testing.T) {
	f := named("a", "b", "c")
	for i := range f.Entries {
		for at := 32; at < 46; at++ {
			for _, b := range []string{"\x01", "\x20", "\x7f", "\xff"} {
				p := piecesOf(f)
				p.seconds[i] = put(p.seconds[i], at, b)
				if p.seconds[i] != piecesOf(f).seconds[i] {
					checkNone(t, "a number turned", p.text())
				}
			}
		}
		for _, begin := range []int{0, 1, 4, 61, 117, 118, len(strings.Join(piecesOf(f).firsts, "")), sums} {
			p := piecesOf(f)
			p.seconds[i] = put(p.seconds[i], 42, digits(begin, 4))
			if p.seconds[i] != piecesOf(f).seconds[i] {
				checkNone(t, "where it begins", p.text())
			}
		}
	}
}

func TestEndsThatTellOtherNumbers(t *testing.T) {
	for _, f := range some() {
		p := piecesOf(f)
		many, bytes, begin := len(f.Entries), len(strings.Join(p.seconds, "")), len(strings.Join(p.firsts, ""))
		check := func(what string, end string) {
			if end != p.end {
				checkNone(t, what, pieces{p.firsts, p.seconds, end}.text())
			}
		}
		for _, n := range []int{0, 1, 2, 3, 5, 6, 7, many + 1, many + 256, 65535} {
			check("how many", endOf(n, many, bytes, begin))
			check("how many again", endOf(many, n, bytes, begin))
			check("how many, both", endOf(n, n, bytes, begin))
		}
		for _, n := range []int{0, 1, bytes + 1, max(0, bytes-1), bytes + 22, bytes + 256, begin, begin + bytes, 1 << 31, sums} {
			check("how many bytes", endOf(many, many, n, begin))
		}
		for _, n := range []int{0, 1, begin + 1, max(0, begin-1), begin + 256, bytes, begin + bytes, 1 << 31, sums} {
			check("where they begin", endOf(many, many, bytes, n))
			check("both", endOf(many, many, n, n))
		}
		check("another disk", put(p.end, 4, "\x01\x00"))
		check("begun on another disk", put(p.end, 6, "\x01\x00"))
		check("a remark that is not there", put(p.end, 20, "\x01\x00"))
		check("a remark", put(p.end, 20, "\x02\x00")+"hi")
		check("cut", p.end[:20])
	}
}

// Other programs write otherwise: with times, with lengths behind the bytes.
func TestArchivesOfAnotherProgram(t *testing.T) {
	for _, names := range [][]string{{"a"}, {"a", "b.txt"}} {
		var out bytes.Buffer
		z := zip.NewWriter(&out)
		for _, name := range names {
			file, err := z.Create(name)
			if err != nil {
				t.Fatal(err)
			}
			if _, err := file.Write([]byte(strings.Repeat("text ", 9))); err != nil {
				t.Fatal(err)
			}
		}
		if err := z.Close(); err != nil {
			t.Fatal(err)
		}
		checkNone(t, strconv.Itoa(len(names))+" files", out.String())
	}
	// Of no file there is only one way to write it.
	var out bytes.Buffer
	if err := zip.NewWriter(&out).Close(); err != nil {
		t.Fatal(err)
	}
	checkText(t, "no file", out.String(), api.Folder{})
}

// Whatever is read is written as it stood.
func TestTextsByChance(t *testing.T) {
	next := row(41)
	read, none := 0, 0
	for range 20000 {
		p, q := piecesOf(folder(next)), piecesOf(folder(next))
		s := spoilt(next, p, q)
		got, err := zipget.Get(s)
		if err != api.OK {
			none++
			checkNone(t, "by chance", s)
			continue
		}
		read++
		checkText(t, "by chance", s, got)
	}
	if read < 500 || none < 10000 {
		t.Errorf("the test is wrong: %d read, %d not", read, none)
	}
}

// spoilt makes a text of what two archives are made of.
func spoilt(next func(n int) int, p pieces, q pieces) string {
	s, other := p.text(), q.text()
	at := next(len(s))
	switch next(8) {
	case 0:
		return s[:at] + other[next(len(other)):]
	case 1:
		return put(s, at, string([]byte{byte(next(256))}))
	case 2:
		return pieces{p.firsts, p.seconds, q.end}.text()
	case 3:
		return pieces{p.firsts, q.seconds, q.end}.text()
	case 4:
		all := slices.Concat(p.firsts, p.seconds, []string{p.end}, q.firsts, q.seconds, []string{q.end})
		s = ""
		for range next(10) {
			s += all[next(len(all))]
		}
		return s
	case 5:
		b := []byte(s)
		for i := range b {
			b[i] = byte(next(256))
		}
		return string(b)
	case 6:
		return put(s, at, string([]byte{s[at] ^ byte(1<<next(8))}))
	}
	return s[:at] + strings.Repeat(s[at:at+1], next(4)) + s[at+1:]
}
