package zipput_test

import (
	"archive/zip"
	"io"
	"slices"
	"strconv"
	"strings"
	"testing"

	"portage/api"
	"portage/crc"
	"portage/deflate"
	"portage/extra"
	"portage/zipput"
)

// digits writes a number in so many bytes, by division.
func digits(value int, width int) string {
	text := ""
	for range width {
		text += string([]byte{byte(value % 256)})
		value /= 256
	}
	return text
}

// written is what the bytes of a folder are that may be written, part by part.
func written(f api.Folder) string {
	var firsts, seconds []string
	for _, e := range f.Entries {
		head, _ := extra.Put(e)
		common := "\x14\x00" + "\x00\x00" + digits(e.Method, 2) + "\x00\x00" + "\x00\x00" + digits(e.Crc, 4) +
			digits(len(e.Packed), 4) + digits(e.Size, 4) + digits(len(e.Name), 2) + "\x1a\x00"
		begin := len(strings.Join(firsts, ""))
		seconds = append(seconds, "PK\x01\x02"+"\x14\x00"+common+"\x00\x00"+"\x00\x00"+"\x00\x00"+"\x00\x00\x00\x00"+digits(begin, 4)+e.Name+head)
		firsts = append(firsts, "PK\x03\x04"+common+e.Name+head+e.Packed)
	}
	first, second, many := strings.Join(firsts, ""), strings.Join(seconds, ""), digits(len(f.Entries), 2)
	return first + second + "PK\x05\x06" + "\x00\x00" + "\x00\x00" + many + many + digits(len(second), 4) + digits(len(first), 4) + "\x00\x00"
}

func checkBytes(t *testing.T, f api.Folder, want string) {
	t.Helper()
	if s, err := zipput.Put(f); s != want || err != api.OK {
		t.Errorf("P13.2: %q, %d, want %q", s, err, want)
	}
	if n := zipput.Size(f); n != len(want) {
		t.Errorf("P13.1: %d bytes, want %d", n, len(want))
	}
}

const endOfNone = "PK\x05\x06" + "\x00\x00" + "\x00\x00" + "\x00\x00" + "\x00\x00" + "\x00\x00\x00\x00" + "\x00\x00\x00\x00" + "\x00\x00"

func TestBytesOfNoEntry(t *testing.T) {
	if len(endOfNone) != 22 {
		t.Fatal("the test is wrong")
	}
	checkBytes(t, api.Folder{}, endOfNone)
	checkBytes(t, of([]api.Entry{}...), endOfNone)
}

func TestBytesOfOneEntry(t *testing.T) {
	e := api.Entry{Name: "a.txt", Vec: []int{1, 2, 3, 4}, Stamp: 5, Node: 3, Packed: "Hello", Size: 5, Crc: 0xf7d18982}
	head := "pP\x16\x00" + "\x01\x00\x00\x00" + "\x02\x00\x00\x00" + "\x03\x00\x00\x00" + "\x04\x00\x00\x00" + "\x05\x00\x00\x00" + "\x03" + "\x00"
	common := "\x14\x00" + "\x00\x00" + "\x00\x00" + "\x00\x00" + "\x00\x00" + "\x82\x89\xd1\xf7" + "\x05\x00\x00\x00" + "\x05\x00\x00\x00" + "\x05\x00" + "\x1a\x00"
	checkBytes(t, of(e), "PK\x03\x04"+common+"a.txt"+head+"Hello"+
		"PK\x01\x02"+"\x14\x00"+common+"\x00\x00"+"\x00\x00"+"\x00\x00"+"\x00\x00\x00\x00"+"\x00\x00\x00\x00"+"a.txt"+head+
		"PK\x05\x06"+"\x00\x00"+"\x00\x00"+"\x01\x00"+"\x01\x00"+"\x4d\x00\x00\x00"+"\x42\x00\x00\x00"+"\x00\x00")
}

// Packed bytes and Size are unlike, a Crc has its highest bit, all bytes come.
func TestBytesOfSomeEntries(t *testing.T) {
	a := api.Entry{Name: "a", Gone: true, Vec: []int{0, 0, full, 0}, Stamp: full, Node: 2}
	b := api.Entry{Name: "b-2.c_d0", Vec: []int{0x010203, 0, 0, 255}, Stamp: 1, Method: 8, Packed: "\x4b\x04\x01\x00", Size: 0x0101, Crc: 0xffeeddcc}
	c := api.Entry{Name: "zz", Vec: []int{0, 1, 0, 0}, Stamp: 1, Node: 1, Packed: "PK\x05\x06\x00PK\x03\x04", Size: 9, Crc: 1}
	aHead := "pP\x16\x00" + "\x00\x00\x00\x00" + "\x00\x00\x00\x00" + "\x00\x00\x10\x00" + "\x00\x00\x00\x00" + "\x00\x00\x10\x00" + "\x02" + "\x01"
	bHead := "pP\x16\x00" + "\x03\x02\x01\x00" + "\x00\x00\x00\x00" + "\x00\x00\x00\x00" + "\xff\x00\x00\x00" + "\x01\x00\x00\x00" + "\x00" + "\x00"
	cHead := "pP\x16\x00" + "\x00\x00\x00\x00" + "\x01\x00\x00\x00" + "\x00\x00\x00\x00" + "\x00\x00\x00\x00" + "\x01\x00\x00\x00" + "\x01" + "\x00"
	none := "\x00\x00\x00\x00"
	aCommon := "\x14\x00" + "\x00\x00" + "\x00\x00" + none + none + none + none + "\x01\x00" + "\x1a\x00"
	bCommon := "\x14\x00" + "\x00\x00" + "\x08\x00" + none + "\xcc\xdd\xee\xff" + "\x04\x00\x00\x00" + "\x01\x01\x00\x00" + "\x08\x00" + "\x1a\x00"
	cCommon := "\x14\x00" + "\x00\x00" + "\x00\x00" + none + "\x01\x00\x00\x00" + "\x09\x00\x00\x00" + "\x09\x00\x00\x00" + "\x02\x00" + "\x1a\x00"
	// First parts of 57, 68 and 67 bytes, second ones of 73, 80 and 74.
	want := "PK\x03\x04" + aCommon + "a" + aHead +
		"PK\x03\x04" + bCommon + "b-2.c_d0" + bHead + "\x4b\x04\x01\x00" +
		"PK\x03\x04" + cCommon + "zz" + cHead + "PK\x05\x06\x00PK\x03\x04" +
		"PK\x01\x02\x14\x00" + aCommon + "\x00\x00\x00\x00\x00\x00" + none + "\x00\x00\x00\x00" + "a" + aHead +
		"PK\x01\x02\x14\x00" + bCommon + "\x00\x00\x00\x00\x00\x00" + none + "\x39\x00\x00\x00" + "b-2.c_d0" + bHead +
		"PK\x01\x02\x14\x00" + cCommon + "\x00\x00\x00\x00\x00\x00" + none + "\x7d\x00\x00\x00" + "zz" + cHead +
		"PK\x05\x06" + "\x00\x00" + "\x00\x00" + "\x03\x00" + "\x03\x00" + "\xe3\x00\x00\x00" + "\xc0\x00\x00\x00" + "\x00\x00"
	if len(want) != 57+68+67+73+80+74+22 {
		t.Fatalf("the test is wrong: %d bytes", len(want))
	}
	checkBytes(t, of(a, b, c), want)
}

// turnedAt tells the places at which two texts of one length are unlike.
func turnedAt(t *testing.T, a string, b string) []int {
	t.Helper()
	if len(a) != len(b) {
		t.Fatalf("P13.2: %d bytes, want %d", len(b), len(a))
	}
	var places []int
	for i := range len(a) {
		if a[i] != b[i] {
			places = append(places, i)
		}
	}
	return places
}

// Each field turns its own bytes, of both parts of its entry, and no others.
func TestPlaceByPlace(t *testing.T) {
	base := deflated("m", "abcd", 5)
	s, _ := zipput.Put(of(base))
	// The parts begin at 0 and 61; their names, and the heads behind them, at
	// 30 and 46 from there.
	for _, row := range []struct {
		what string
		turn func(e *api.Entry)
		want []int
	}{
		{"Crc", func(e *api.Entry) { e.Crc = 0x11223344 }, []int{14, 15, 16, 17, 77, 78, 79, 80}},
		{"Crc's highest byte", func(e *api.Entry) { e.Crc += 0xff000000 }, []int{17, 80}},
		{"Size", func(e *api.Entry) { e.Size = 300 }, []int{22, 23, 85, 86}},
		{"Name", func(e *api.Entry) { e.Name = "n" }, []int{30, 107}},
		{"Vec", func(e *api.Entry) { e.Vec[0] = 255 }, []int{35, 112}},
		{"Stamp", func(e *api.Entry) { e.Stamp += 256 }, []int{52, 129}},
		{"Node", func(e *api.Entry) { e.Node = 0 }, []int{55, 132}},
		{"Packed", func(e *api.Entry) { e.Packed = "abXd" }, []int{59}},
		{"Method", func(e *api.Entry) { e.Method, e.Size = 0, 4 }, []int{8, 22, 71, 85}},
	} {
		got, err := zipput.Put(of(with(base, row.turn)))
		if places := turnedAt(t, s, got); !slices.Equal(places, row.want) || err != api.OK {
			t.Errorf("P13.2: %s turns %v, want %v; %d", row.what, places, row.want, err)
		}
	}
}

// The first parts begin one behind the other, however long each is.
func TestWhereFirstPartsBegin(t *testing.T) {
	for _, n := range []int{0, 1, 113, 198, 199, 200, 255, 256, 300} {
		f := of(stored("a", text(n)), gone("bc"), deflated("d", text(300-n), n), stored("efghijkl", ""), deflated("m", text(n), 0), gone("z"))
		s, err := zipput.Put(f)
		if err != api.OK {
			t.Fatalf("P13.2: %d", err)
		}
		begin, second := 0, 6*(30+26)+(1+2+1+8+1+1)+n+(300-n)+n
		at := second
		for _, e := range f.Entries {
			if s[at:at+4] != "PK\x01\x02" || s[at+42:at+46] != digits(begin, 4) || s[begin:begin+4] != "PK\x03\x04" || !strings.HasPrefix(s[begin+30:], e.Name) {
				t.Errorf("P13.2: %s with %d bytes: %q, want one from %d on", e.Name, n, s[at:at+46], begin)
			}
			at += 46 + len(e.Name) + 26
			begin += 30 + len(e.Name) + 26 + len(e.Packed)
		}
		if begin != second || s[at+12:at+16] != digits(at-second, 4) || s[at+16:at+20] != digits(second, 4) {
			t.Errorf("P13.2: the end: %q", s[at:])
		}
		checkTold(t, strconv.Itoa(n)+" bytes", f)
	}
}

// No folder that may be written has more bytes than these, so that none is
// refused for its length.
func TestTheMostBytes(t *testing.T) {
	for _, method := range []int{0, 8} {
		var f api.Folder
		for i := range 6 {
			e := stored("zzzzzzz"+strconv.Itoa(i), text(300))
			e.Vec, e.Stamp, e.Node, e.Method, e.Crc = []int{full, full, full, full}, full, 3, method, sums
			f.Entries = append(f.Entries, e)
		}
		// 6 times 364 of first parts, 80 of second ones, and 22 behind them.
		if n := zipput.Size(f); n != 2686 {
			t.Errorf("P13.1: %d bytes", n)
		}
		checkTold(t, "the most bytes", f)
		more := with(f.Entries[5], func(e *api.Entry) { e.Name = "zzzzzzzz" })
		checkNone(t, "one entry more", of(append(slices.Clone(f.Entries), more)...))
	}
}

// The fewest bytes of each number of entries, and how many each thing adds.
func TestSizes(t *testing.T) {
	for n := range 7 {
		var f api.Folder
		for i := range n {
			f.Entries = append(f.Entries, gone(strconv.Itoa(i)))
		}
		if got := zipput.Size(f); got != 22+n*130 {
			t.Errorf("P13.1: %d entries: %d bytes", n, got)
		}
	}
	for n := range 301 {
		if got := zipput.Size(of(stored("a", text(n)))); got != 152+n {
			t.Errorf("P13.1: %d stored: %d bytes", n, got)
		}
		if got := zipput.Size(of(deflated("a", text(n), 300-n))); got != 152+n {
			t.Errorf("P13.1: %d deflated: %d bytes", n, got)
		}
	}
	for n := 1; n <= 8; n++ {
		if got := zipput.Size(of(gone(strings.Repeat("a", n)))); got != 150+2*n {
			t.Errorf("P13.1: a name of %d: %d bytes", n, got)
		}
	}
}

// Another program reads what is told of texts that are packed by layer 9.
func TestAnotherProgramReadsIt(t *testing.T) {
	texts := []string{"", "a", strings.Repeat("portage ", 37), text(300), strings.Repeat("x", 300), "PK\x05\x06"}
	var f api.Folder
	for i, s := range texts {
		e := api.Entry{Name: "f" + strconv.Itoa(i), Vec: []int{i, 1, 2, 3}, Stamp: 1 + i, Node: i % 4, Size: len(s), Crc: crc.Of(s)}
		e.Method, e.Packed, _ = deflate.Pack(s)
		f.Entries = append(f.Entries, e)
	}
	s, _ := zipput.Put(f)
	z, err := zip.NewReader(strings.NewReader(s), int64(len(s)))
	if err != nil || len(z.File) != len(texts) || z.Comment != "" {
		t.Fatalf("P13.2: %v", err)
	}
	for i, file := range z.File {
		head, _ := extra.Put(f.Entries[i])
		if file.Name != f.Entries[i].Name || string(file.Extra) != head || file.Comment != "" || file.Flags != 0 || int(file.CRC32) != f.Entries[i].Crc {
			t.Errorf("P13.2: %v", file.FileHeader)
		}
		body, err := file.Open()
		if err != nil {
			t.Fatalf("P13.2: %s: %v", file.Name, err)
		}
		if got, err := io.ReadAll(body); string(got) != texts[i] || err != nil {
			t.Errorf("P13.2: %s: %q, %v, want %q", file.Name, got, err, texts[i])
		}
	}
}

// folder makes one that may be written, by a row of numbers.
func folder(next func(n int) int) api.Folder {
	var f api.Folder
	for _, name := range []string{"-", "...", "0", "a", "a.b", "abcdefgh", "b", "z-9", "zz"} {
		if len(f.Entries) == 6 || next(2) == 0 {
			continue
		}
		e := api.Entry{Name: name, Vec: []int{next(full + 1), next(3), next(full + 1), next(3)}, Stamp: 1 + next(full), Node: next(4)}
		switch next(3) {
		case 0:
			e.Gone = true
		case 1:
			e.Packed, e.Crc = text(next(301)), next(sums+1)
			e.Size = len(e.Packed)
		case 2:
			e.Method, e.Packed, e.Size, e.Crc = 8, text(next(301)), next(301), next(sums+1)
		}
		f.Entries = append(f.Entries, e)
	}
	return f
}

// row is numbers by chance, that are always the same.
func row(seed uint64) func(n int) int {
	return func(n int) int {
		seed = seed*6364136223846793005 + 1442695040888963407
		return int(seed>>31) % n
	}
}

func TestManyFolders(t *testing.T) {
	next := row(13)
	seen := [7]int{}
	for range 2000 {
		f := folder(next)
		seen[len(f.Entries)]++
		checkTold(t, strconv.Itoa(len(f.Entries))+" entries by chance", f)
	}
	if slices.Contains(seen[:], 0) {
		t.Fatalf("the test is wrong: %v", seen)
	}
}
