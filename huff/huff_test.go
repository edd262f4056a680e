package huff_test

import (
	"math"
	"math/big"
	"math/rand"
	"slices"
	"sync"
	"testing"

	"portage/api"
	"portage/huff"
)

// spoiled are lengths that may not be; those of some take more than all room
// besides.
func spoiled() map[string][]int {
	return map[string][]int{
		"nil":                      nil,
		"none":                     {},
		"none, with spare room":    make([]int, 0, 5),
		"one too many":             make([]int, api.MaxSymbols+1),
		"one too many, no room":    slices.Repeat([]int{1}, api.MaxSymbols+1),
		"very many":                make([]int, 1<<20),
		"below 0":                  {-1},
		"below 0 behind a code":    {1, -1},
		"below 0 ahead of a code":  {-1, 1, 1},
		"far below 0":              {math.MinInt, 1},
		"above MaxBits":            {api.MaxBits + 1},
		"above MaxBits, at an end": {1, 1, api.MaxBits + 1},
		"far above MaxBits":        {math.MaxInt, 1},
		"wraps in 64 bits":         {1, api.MaxBits + 64},
		"no room, below 0":         {1, 1, 1, -1},
		"no room, above MaxBits":   {1, 1, 1, api.MaxBits + 1},
		"below 0 at the last one":  append(make([]int, api.MaxSymbols-1), -1),
	}
}

// overfull are lengths whose room is above 1.
func overfull() map[string][]int {
	return map[string][]int{
		"one of the least":        {1, 1, api.MaxBits},
		"the least ahead":         {api.MaxBits, 1, 1},
		"three of 1":              {1, 1, 1},
		"all of 1":                slices.Repeat([]int{1}, api.MaxSymbols),
		"one of 8":                slices.Repeat([]int{8}, 257),
		"with lengths 0 among":    {0, 1, 0, 2, 0, 3, 3, 0, api.MaxBits, 0},
		"three of the longest":    append(stairs(), api.MaxBits),
		"five of 2":               {2, 2, 2, 2, 2},
		"short behind long":       {3, 3, 3, 3, 2, 2, 1},
		"full, and very many one": append(slices.Repeat([]int{api.MaxBits}, api.MaxSymbols-2), 1, 1),
	}
}

// full are lengths whose room is 1.
func full() map[string][]int {
	return map[string][]int{
		"two of 1":              {1, 1},
		"with lengths 0 among":  {0, 1, 0, 0, 1, 0},
		"four of 2":             {2, 2, 2, 2},
		"rising":                {1, 2, 3, 3},
		"falling":               {3, 3, 2, 1},
		"mixed":                 {3, 1, 3, 2},
		"of RFC 1951, 3.2.2":    {3, 3, 3, 3, 3, 2, 4, 4},
		"a length left out":     {1, 3, 3, 3, 3},
		"every length":          stairs(),
		"256 of 8":              slices.Repeat([]int{8}, 256),
		"MaxSymbols of them":    fixed(),
		"two of 1 at the edges": slices.Concat([]int{1}, make([]int, api.MaxSymbols-2), []int{1}),
	}
}

// partly are lengths whose room is below 1.
func partly() map[string][]int {
	return map[string][]int{
		"one length 0":           {0},
		"MaxSymbols lengths 0":   make([]int, api.MaxSymbols),
		"one of 1":               {1},
		"one of the longest":     {api.MaxBits},
		"one of each, less one":  stairs()[1:],
		"1 and 3":                {1, 3},
		"lengths 0 among":        {0, 3, 0, 2, 0, 3, 0},
		"255 of 8":               slices.Repeat([]int{8}, 255),
		"MaxSymbols of 9":        slices.Repeat([]int{9}, api.MaxSymbols),
		"MaxSymbols of MaxBits":  slices.Repeat([]int{api.MaxBits}, api.MaxSymbols),
		"long ahead of short":    {api.MaxBits, 5, 2, 2, 4},
		"RFC's, without the 2":   {3, 3, 3, 3, 3, 0, 4, 4},
		"RFC's, without a 4":     {3, 3, 3, 3, 3, 2, 4, 0},
		"one code at the end":    append(make([]int, api.MaxSymbols-1), 7),
		"shortest ones left out": {6, 6, 6, 7, 7, 9},
	}
}

// stairs has one of each length, and one of the longest more: the room is 1.
func stairs() []int {
	all := []int{api.MaxBits}
	for n := api.MaxBits; n > 0; n-- {
		all = append(all, n)
	}
	return all
}

// fixed are the lengths of RFC 1951, 3.2.6.
func fixed() []int {
	return slices.Concat(
		slices.Repeat([]int{8}, 144),
		slices.Repeat([]int{9}, 112),
		slices.Repeat([]int{7}, 24),
		slices.Repeat([]int{8}, 8),
	)
}

// chance makes lengths of any room, MaxSymbols at most.
func chance(r *rand.Rand) []int {
	all := make([]int, 1+r.Intn(api.MaxSymbols))
	least := r.Intn(api.MaxBits + 1)
	for i := range all {
		all[i] = least + r.Intn(api.MaxBits-least+1)
		if r.Intn(4) == 0 {
			all[i] = 0
		}
	}
	return all
}

// split makes lengths whose room is 1, by making one code into two that are a
// bit longer, over and over.
func split(r *rand.Rand) []int {
	all := []int{1, 1}
	for range r.Intn(api.MaxSymbols - 1) {
		i := r.Intn(len(all))
		if all[i] < api.MaxBits {
			all[i]++
			all = append(all, all[i])
		}
	}
	r.Shuffle(len(all), func(i, k int) { all[i], all[k] = all[k], all[i] })
	return all
}

// room is the lengths' room as the chapter says it, in fractions.
func room(lengths []int) *big.Rat {
	sum := new(big.Rat)
	for _, n := range lengths {
		if n != 0 {
			sum.Add(sum, big.NewRat(1, 1<<n))
		}
	}
	return sum
}

// model are the codes in another way than by counts: each one's value is the
// room of all that are shorter, or as long with a lower symbol, in its own
// unit.
func model(lengths []int) []api.Code {
	codes := make([]api.Code, len(lengths))
	for symbol, n := range lengths {
		if n == 0 {
			continue
		}
		ahead := 0
		for other, k := range lengths {
			if k != 0 && (k < n || k == n && other < symbol) {
				ahead += 1 << (api.MaxBits - k)
			}
		}
		codes[symbol] = api.Code{Bits: n, Value: ahead >> (api.MaxBits - n)}
	}
	return codes
}

// wantRefused asks each call for an error, with nothing beside it.
func wantRefused(t *testing.T, name string, lengths []int, want api.Errno) {
	t.Helper()
	if got := huff.Check(lengths); got != want {
		t.Errorf("P3.1: %s: Check: %d, want %d", name, got, want)
	}
	codes, err := huff.Codes(lengths)
	if err != want || codes != nil {
		t.Errorf("P3.2: %s: Codes: %v, %d, want none, %d", name, codes, err, want)
	}
	for _, c := range []api.Code{{Bits: 1, Value: 0}, {Bits: 1, Value: 1}, {Bits: 0, Value: 0}, {Bits: api.MaxBits, Value: 0}, {Bits: -1, Value: -1}, {Bits: math.MaxInt, Value: math.MaxInt}} {
		symbol, is, err := huff.Find(lengths, c.Bits, c.Value)
		if symbol != 0 || is || err != want {
			t.Errorf("P3.3: %s: Find of %v: %d, %v, %d, want 0, false, %d", name, c, symbol, is, err, want)
		}
	}
}

// wantCodes asks for the codes, and for each of them back.
func wantCodes(t *testing.T, name string, lengths []int, want []api.Code) {
	t.Helper()
	got, err := huff.Codes(lengths)
	if err != api.OK || !slices.Equal(got, want) {
		t.Errorf("P3.2: %s: %v: %v, %d, want %v", name, lengths, got, err, want)
	}
	for symbol, c := range want {
		if c.Bits == 0 {
			continue
		}
		got, is, err := huff.Find(lengths, c.Bits, c.Value)
		if got != symbol || !is || err != api.OK {
			t.Errorf("P3.3: %s: %v: %v: %d, %v, %d, want %d", name, lengths, c, got, is, err, symbol)
		}
	}
}

// wantNone asks that no symbol has a code.
func wantNone(t *testing.T, name string, lengths []int, bits int, value int) {
	t.Helper()
	symbol, is, err := huff.Find(lengths, bits, value)
	if symbol != 0 || is || err != api.OK {
		t.Errorf("P3.3: %s: %v: %d bits, %d: %d, %v, %d, want none", name, lengths, bits, value, symbol, is, err)
	}
}

func TestRefusesLengthsThatMayNotBe(t *testing.T) {
	for name, lengths := range spoiled() {
		wantRefused(t, name, lengths, api.ErrHuffForm)
	}
}

func TestRefusesRoomAbove1(t *testing.T) {
	for name, lengths := range overfull() {
		if room(lengths).Cmp(big.NewRat(1, 1)) <= 0 {
			t.Fatalf("%s: the room is %v", name, room(lengths))
		}
		wantRefused(t, name, lengths, api.ErrHuffOver)
	}
}

func TestCheckOfRoom1(t *testing.T) {
	for name, lengths := range full() {
		if got := huff.Check(lengths); got != api.OK {
			t.Errorf("P3.1: %s: %d", name, got)
		}
	}
}

func TestCheckOfRoomBelow1(t *testing.T) {
	for name, lengths := range partly() {
		if got := huff.Check(lengths); got != api.ErrHuffUnder {
			t.Errorf("P3.1: %s: %d, want %d", name, got, api.ErrHuffUnder)
		}
	}
}

// By one code of each length the room passes 1, or falls below.
func TestCheckByOneCode(t *testing.T) {
	for n := 1; n <= 8; n++ {
		lengths := slices.Repeat([]int{n}, 1<<n)
		if got := huff.Check(lengths); got != api.OK {
			t.Errorf("P3.1: all of %d: %d", n, got)
		}
		if got := huff.Check(lengths[1:]); got != api.ErrHuffUnder {
			t.Errorf("P3.1: one fewer of %d: %d", n, got)
		}
	}
	for n := 1; n <= api.MaxBits; n++ {
		if got := huff.Check(append(stairs(), n)); got != api.ErrHuffOver {
			t.Errorf("P3.1: one more of %d: %d", n, got)
		}
		lengths := stairs()
		lengths[slices.Index(lengths, n)] = 0
		if got := huff.Check(lengths); got != api.ErrHuffUnder {
			t.Errorf("P3.1: one fewer of %d: %d", n, got)
		}
		wantRefused(t, "one more", append([]int{n, 0}, stairs()...), api.ErrHuffOver)
	}
}

func TestByChance(t *testing.T) {
	r := rand.New(rand.NewSource(3))
	seen := map[api.Errno]int{}
	for range 600 {
		lengths := chance(r)
		want := api.OK
		switch room(lengths).Cmp(big.NewRat(1, 1)) {
		case 1:
			wantRefused(t, "by chance", lengths, api.ErrHuffOver)
			seen[api.ErrHuffOver]++
			continue
		case -1:
			want = api.ErrHuffUnder
		}
		seen[want]++
		if got := huff.Check(lengths); got != want {
			t.Fatalf("P3.1: %v: %d, want %d", lengths, got, want)
		}
		wantCodes(t, "by chance", lengths, model(lengths))
	}
	if seen[api.ErrHuffOver] < 50 || seen[api.ErrHuffUnder] < 50 {
		t.Errorf("the lengths by chance are too much alike: %v", seen)
	}
}

func TestByChanceOfRoom1(t *testing.T) {
	r := rand.New(rand.NewSource(33))
	for range 200 {
		lengths := split(r)
		if got := huff.Check(lengths); got != api.OK {
			t.Fatalf("P3.1: %v: %d", lengths, got)
		}
		wantCodes(t, "split", lengths, model(lengths))
	}
}

func TestCodesWrittenOut(t *testing.T) {
	none := api.Code{}
	for _, c := range []struct {
		name    string
		lengths []int
		want    []api.Code
	}{
		{"RFC 1951, 3.2.2", []int{3, 3, 3, 3, 3, 2, 4, 4}, []api.Code{{Bits: 3, Value: 2}, {Bits: 3, Value: 3}, {Bits: 3, Value: 4}, {Bits: 3, Value: 5}, {Bits: 3, Value: 6}, {Bits: 2, Value: 0}, {Bits: 4, Value: 14}, {Bits: 4, Value: 15}}},
		{"two", []int{1, 1}, []api.Code{{Bits: 1, Value: 0}, {Bits: 1, Value: 1}}},
		{"lengths 0 among", []int{0, 2, 0, 1, 3, 0, 3}, []api.Code{none, {Bits: 2, Value: 2}, none, {Bits: 1, Value: 0}, {Bits: 3, Value: 6}, none, {Bits: 3, Value: 7}}},
		{"a length left out", []int{3, 1, 3, 3, 3}, []api.Code{{Bits: 3, Value: 4}, {Bits: 1, Value: 0}, {Bits: 3, Value: 5}, {Bits: 3, Value: 6}, {Bits: 3, Value: 7}}},
		{"one length 0", []int{0}, []api.Code{none}},
		{"lengths 0", []int{0, 0, 0}, []api.Code{none, none, none}},
		{"one of 1", []int{1}, []api.Code{{Bits: 1, Value: 0}}},
		{"one of 1 behind none", []int{0, 1}, []api.Code{none, {Bits: 1, Value: 0}}},
		{"one of MaxBits", []int{api.MaxBits}, []api.Code{{Bits: api.MaxBits, Value: 0}}},
		{"room left between", []int{4, 2, 4}, []api.Code{{Bits: 4, Value: 4}, {Bits: 2, Value: 0}, {Bits: 4, Value: 5}}},
	} {
		wantCodes(t, c.name, c.lengths, c.want)
	}
}

func TestCodesOfRoom1AndBelow(t *testing.T) {
	for name, lengths := range full() {
		wantCodes(t, name, lengths, model(lengths))
	}
	for name, lengths := range partly() {
		wantCodes(t, name, lengths, model(lengths))
	}
}

func TestCodesOfFixedLengths(t *testing.T) {
	codes, err := huff.Codes(fixed())
	if err != api.OK {
		t.Fatalf("P3.2: %d", err)
	}
	for symbol, want := range map[int]api.Code{
		0:   {Bits: 8, Value: 0x30},
		143: {Bits: 8, Value: 0xBF},
		144: {Bits: 9, Value: 0x190},
		255: {Bits: 9, Value: 0x1FF},
		256: {Bits: 7, Value: 0},
		279: {Bits: 7, Value: 0x17},
		280: {Bits: 8, Value: 0xC0},
		287: {Bits: 8, Value: 0xC7},
	} {
		if codes[symbol] != want {
			t.Errorf("P3.2: %d: %v, want %v", symbol, codes[symbol], want)
		}
	}
}

// No code is the beginning of another one, and each has its bits.
func TestNoCodeBeginsAnother(t *testing.T) {
	r := rand.New(rand.NewSource(34))
	for range 40 {
		lengths := split(r)
		lengths[r.Intn(len(lengths))] = 0
		codes, _ := huff.Codes(lengths)
		for i, a := range codes {
			if a.Bits != lengths[i] || a.Value < 0 || a.Value >= 1<<a.Bits {
				t.Fatalf("P3.2: %v: %d: %v", lengths, i, a)
			}
			for k, b := range codes {
				if i != k && a.Bits > 0 && b.Bits >= a.Bits && b.Value>>(b.Bits-a.Bits) == a.Value {
					t.Fatalf("P3.2: %v: %v begins %v", lengths, a, b)
				}
			}
		}
	}
}

// Every number of each length is asked for, of lengths with and without room.
func TestFindOfEveryValue(t *testing.T) {
	for name, lengths := range map[string][]int{
		"every length":    stairs(),
		"room left":       {0, 3, 0, 2, 0, 3, 7, api.MaxBits},
		"no code":         {0, 0, 0},
		"one of MaxBits":  {0, api.MaxBits},
		"one of 1":        {1},
		"a length twice":  {5, 2, 5, 2},
		"shortest are 13": {0, 13, 13, 14},
	} {
		symbols := map[api.Code]int{}
		for symbol, c := range model(lengths) {
			if c.Bits > 0 {
				symbols[c] = symbol
			}
		}
		for bits := 1; bits <= api.MaxBits; bits++ {
			for value := range 1 << bits {
				want, has := symbols[api.Code{Bits: bits, Value: value}]
				got, is, err := huff.Find(lengths, bits, value)
				if got != want || is != has || err != api.OK {
					t.Fatalf("P3.3: %s: %d bits, %d: %d, %v, %d, want %d, %v", name, bits, value, got, is, err, want, has)
				}
			}
		}
	}
}

func TestFindOfStrangeNumbers(t *testing.T) {
	strange := []int{math.MinInt, math.MinInt + 1, math.MinInt + 1<<14, -1 << 32, -(1 << 15), -2, -1, 1 << 15, 1<<15 + 1, 1 << 16, 1 << 32, 1<<32 + 1, math.MaxInt - 1, math.MaxInt}
	for _, all := range []map[string][]int{full(), partly()} {
		for name, lengths := range all {
			for bits := -2; bits <= api.MaxBits+2; bits++ {
				for _, value := range strange {
					wantNone(t, name, lengths, bits, value)
				}
			}
			for _, bits := range []int{math.MinInt, -64, -16, -1, 0, api.MaxBits + 1, 17, 63, 64, 65, 1 << 32, 1<<32 + 1, math.MaxInt} {
				for _, value := range append([]int{0, 1, 2, 3}, strange...) {
					wantNone(t, name, lengths, bits, value)
				}
			}
		}
	}
}

// Just ahead of a length's first code and just behind its last one.
func TestFindBesideTheCodes(t *testing.T) {
	lengths := []int{3, 0, 3, 2, 6, 6}
	wantNone(t, "ahead of 3", lengths, 3, 1)
	wantNone(t, "behind 3", lengths, 3, 4)
	wantNone(t, "behind 2", lengths, 2, 1)
	wantNone(t, "length 1", lengths, 1, 0)
	wantNone(t, "length 4", lengths, 4, 8)
	wantNone(t, "ahead of 6", lengths, 6, 31)
	wantNone(t, "behind 6", lengths, 6, 34)
	wantCodes(t, "beside", lengths, model(lengths))
}

// The lengths, and the room behind them, stay as they were.
func TestLengthsStayAsTheyWere(t *testing.T) {
	for _, kinds := range []map[string][]int{spoiled(), overfull(), full(), partly()} {
		for name, lengths := range kinds {
			spare := append(slices.Clone(lengths), 77, 78)
			before := slices.Clone(spare)
			given := spare[:len(lengths)]
			huff.Check(given)
			codes, _ := huff.Codes(given)
			for i := range codes {
				codes[i] = api.Code{Bits: -5, Value: -5}
			}
			huff.Find(given, 1, 0)
			if !slices.Equal(spare, before) {
				t.Errorf("R4: %s: the lengths were changed", name)
			}
		}
	}
}

// Two answers are two lists, and no later call knows of an earlier one.
func TestAnswersStandAlone(t *testing.T) {
	lengths := []int{2, 1, 3, 3}
	first, _ := huff.Codes(lengths)
	want := slices.Clone(first)
	huff.Codes([]int{1, 1, 1})
	huff.Codes([]int{4, 4, 4, 4, 4})
	for i := range first {
		first[i] = api.Code{Bits: 9, Value: 9}
	}
	wantCodes(t, "once more", lengths, want)
	kept, _ := huff.Codes(lengths)
	lengths[0], lengths[1] = 1, 2
	if !slices.Equal(kept, want) {
		t.Errorf("R4: the answer changed with the lengths: %v, want %v", kept, want)
	}
	wantCodes(t, "changed", lengths, model(lengths))
}

func TestFromSeveralGoroutines(t *testing.T) {
	lengths := fixed()
	want := model(lengths)
	var all sync.WaitGroup
	for range 8 {
		all.Go(func() {
			for range 20 {
				wantCodes(t, "side by side", lengths, want)
			}
		})
	}
	all.Wait()
}
