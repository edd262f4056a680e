package limit_test

import (
	"math"
	"math/rand"
	"slices"
	"sync"
	"testing"

	"portage/api"
	"portage/huff"
	"portage/limit"
)

// greatest is the most that a symbol may count.
const greatest = 2147483647

// knot is a tree of the model: a weight, and the symbols that stand in it.
type knot struct {
	weight  int
	symbols []int
}

// depths are how deep symbols stand, in another way than by a heap: those of
// one symbol wait in one row, sorted once, the joined ones in another, which
// rises by itself; the least one is at the head of one of them.
func depths(counts []int) []int {
	var single, joined []knot
	for symbol, n := range counts {
		if n > 0 {
			single = append(single, knot{n, []int{symbol}})
		}
	}
	slices.SortStableFunc(single, func(a, b knot) int { return a.weight - b.weight })
	least := func() knot {
		from := &joined
		if len(joined) == 0 || len(single) > 0 && single[0].weight <= joined[0].weight {
			from = &single
		}
		x := (*from)[0]
		*from = (*from)[1:]
		return x
	}
	deep := make([]int, len(counts))
	for len(single)+len(joined) > 1 {
		a, b := least(), least()
		both := knot{a.weight + b.weight, slices.Concat(a.symbols, b.symbols)}
		for _, symbol := range both.symbols {
			deep[symbol]++
		}
		joined = append(joined, both)
	}
	return deep
}

// pair is the counts with the first other one used, where just one is.
func pair(counts []int) []int {
	own := slices.Clone(counts)
	if many(own) == 1 {
		own[slices.Index(own, 0)] = 1
	}
	return own
}

// many tells how many counts are above 0.
func many(counts []int) int {
	n := 0
	for _, count := range counts {
		if count > 0 {
			n++
		}
	}
	return n
}

// model is what the chapter asks of counts that may be, and how often it
// halves them.
func model(counts []int, most int) ([]int, int) {
	own := pair(counts)
	deep := depths(own)
	halved := 0
	for slices.Max(deep) > most {
		halved++
		for i := range own {
			own[i] = (own[i] + 1) / 2
		}
		deep = depths(own)
	}
	return deep, halved
}

// growing are counts of which each is the sum of the two ahead of it, so that
// the tree is as deep as it can be.
func growing(n int) []int {
	all := []int{1, 1}
	for len(all) < n {
		all = append(all, all[len(all)-1]+all[len(all)-2])
	}
	return all[:n]
}

// doubling are counts of which each is twice the one ahead of it.
func doubling(n int) []int {
	all := make([]int, n)
	for i := range all {
		all[i] = 1 << i
	}
	return all
}

// wantRefused asks for an error, with nothing beside it.
func wantRefused(t *testing.T, name string, counts []int, most int) {
	t.Helper()
	got, err := limit.Lengths(counts, most)
	if got != nil || err != api.ErrLimitForm {
		t.Errorf("P4.1: %s: most %d: %v, %d, want none, %d", name, most, got, err, api.ErrLimitForm)
	}
}

// wantLengths asks for lengths, and what holds of all of them.
func wantLengths(t *testing.T, name string, counts []int, most int, want []int) {
	t.Helper()
	got, err := limit.Lengths(counts, most)
	if err != api.OK || !slices.Equal(got, want) {
		t.Fatalf("P4.1: %s: %v, most %d: %v, %d, want %v", name, counts, most, got, err, want)
	}
	if many(counts) == 0 {
		return
	}
	if full := huff.Check(got); full != api.OK {
		t.Fatalf("P4.1: %s: %v, most %d: %v: Check: %d", name, counts, most, got, full)
	}
	for i, n := range pair(counts) {
		if (n > 0) != (got[i] > 0) || got[i] > most {
			t.Fatalf("P4.1: %s: %v, most %d: %v: place %d", name, counts, most, got, i)
		}
	}
}

func TestRefusesCounts(t *testing.T) {
	for name, counts := range map[string][]int{
		"nil":                     nil,
		"none":                    {},
		"none, with spare room":   make([]int, 0, 5),
		"one":                     {1},
		"one of 0":                {0},
		"one too many":            make([]int, api.MaxSymbols+1),
		"one too many, one used":  append(make([]int, api.MaxSymbols), 1),
		"one too many, two used":  append(make([]int, api.MaxSymbols-1), 1, 1),
		"very many":               make([]int, 1<<20),
		"below 0":                 {-1, 1},
		"below 0 at the end":      {1, 1, -1},
		"two below 0":             {-1, -1},
		"far below 0":             {math.MinInt, 1},
		"above the greatest":      {greatest + 1, 1},
		"above it at the end":     {1, 1, greatest + 1},
		"far above":               {1, math.MaxInt},
		"0 in 32 bits":            {1 << 32, 1},
		"1 in 32 bits":            {1, 1<<32 + 1},
		"below 0 at the last one": append(make([]int, api.MaxSymbols-1), -1),
		"above it among zeros":    {0, 0, greatest + 1, 0},
	} {
		for _, most := range []int{1, 2, 9, api.MaxBits, 0, api.MaxBits + 1} {
			wantRefused(t, name, counts, most)
		}
	}
}

func TestRefusesMost(t *testing.T) {
	for name, counts := range map[string][]int{
		"two":        {1, 1},
		"none used":  {0, 0, 0},
		"one used":   {0, 5},
		"all used":   slices.Repeat([]int{3}, api.MaxSymbols),
		"two spread": {greatest, 0, 0, 1},
	} {
		for _, most := range []int{0, -1, -2, -64, -1 << 32, math.MinInt, api.MaxBits + 1, api.MaxBits + 2, 31, 32, 63, 64, 65, 1 << 32, 1<<32 + 1, math.MaxInt} {
			wantRefused(t, name, counts, most)
		}
	}
}

// As many as 2 to the power of most are told apart, and not one more.
func TestAsManyAsMostTellsApart(t *testing.T) {
	for most := 1; most <= 8; most++ {
		full := slices.Repeat([]int{7}, 1<<most)
		wantLengths(t, "just as many", full, most, slices.Repeat([]int{most}, 1<<most))
		wantRefused(t, "one more", append(full, 1), most)
		wantRefused(t, "one more, ahead", append([]int{greatest}, full...), most)
		zeros := make([]int, 9)
		among := slices.Concat(zeros, full, zeros)
		wantLengths(t, "zeros among", among, most, slices.Concat(zeros, slices.Repeat([]int{most}, 1<<most), zeros))
		wantRefused(t, "one more, zeros among", append(among, 1), most)
	}
	all := slices.Repeat([]int{1}, api.MaxSymbols)
	wantRefused(t, "MaxSymbols", all, 8)
	want, _ := model(all, 9)
	wantLengths(t, "MaxSymbols", all, 9, want)
	wantRefused(t, "256 and one", slices.Concat(make([]int, api.MaxSymbols-257), slices.Repeat([]int{1}, 257)), 8)
}

func TestNoneUsed(t *testing.T) {
	for _, n := range []int{2, 3, 19, 30, api.MaxSymbols - 1, api.MaxSymbols} {
		for most := 1; most <= api.MaxBits; most++ {
			wantLengths(t, "none used", make([]int, n), most, make([]int, n))
		}
	}
}

// A second one is used beside one alone: the first other one, wherever it is.
func TestOneUsed(t *testing.T) {
	for _, n := range []int{2, 3, 19, api.MaxSymbols} {
		for at := range n {
			for _, count := range []int{1, 2, 1000, greatest} {
				counts := make([]int, n)
				counts[at] = count
				want := make([]int, n)
				want[at] = 1
				if at == 0 {
					want[1] = 1
				} else {
					want[0] = 1
				}
				for _, most := range []int{1, 2, api.MaxBits} {
					wantLengths(t, "one used", counts, most, want)
				}
			}
		}
	}
}

func TestTwoUsed(t *testing.T) {
	for _, most := range []int{1, 2, api.MaxBits} {
		wantLengths(t, "two", []int{1, 1}, most, []int{1, 1})
		wantLengths(t, "unlike", []int{1, greatest}, most, []int{1, 1})
		wantLengths(t, "the greatest", []int{greatest, greatest}, most, []int{1, 1})
		wantLengths(t, "apart", []int{0, 3, 0, 0, 8, 0}, most, []int{0, 1, 0, 0, 1, 0})
	}
}

func TestWrittenOut(t *testing.T) {
	for _, c := range []struct {
		name   string
		counts []int
		most   int
		want   []int
	}{
		{"rising", []int{1, 1, 2, 4, 8}, 15, []int{4, 4, 3, 2, 1}},
		{"falling", []int{8, 4, 2, 1, 1}, 15, []int{1, 2, 3, 4, 4}},
		{"mixed", []int{0, 5, 9, 0, 12, 13, 16, 45}, 15, []int{0, 4, 4, 0, 3, 3, 3, 1}},
		{"just as deep as most", []int{1, 1, 2, 4, 8}, 4, []int{4, 4, 3, 2, 1}},
		{"one deeper than most", []int{1, 1, 2, 4, 8}, 3, []int{3, 3, 3, 3, 1}},
		{"halved to all alike", []int{1, 1, 2, 4}, 2, []int{2, 2, 2, 2}},
	} {
		wantLengths(t, c.name, c.counts, c.most, c.want)
	}
}

// Of equal weights the one that was made first is joined first: those of the
// symbols in their row, and all of them ahead of joined ones.
func TestEqualOnes(t *testing.T) {
	for _, c := range []struct {
		name   string
		counts []int
		want   []int
	}{
		{"three", []int{1, 1, 1}, []int{2, 2, 1}},
		{"three, zeros among", []int{0, 4, 0, 4, 4, 0}, []int{0, 2, 0, 2, 1, 0}},
		{"five", []int{1, 1, 1, 1, 1}, []int{3, 3, 2, 2, 2}},
		{"six", []int{2, 2, 2, 2, 2, 2}, []int{3, 3, 3, 3, 2, 2}},
		{"seven", []int{9, 9, 9, 9, 9, 9, 9}, []int{3, 3, 3, 3, 3, 3, 2}},
		{"a joined one as heavy as two that wait", []int{1, 1, 2, 2}, []int{2, 2, 2, 2}},
		{"the same, falling", []int{2, 2, 1, 1}, []int{2, 2, 2, 2}},
		{"one that waits", []int{2, 1, 1}, []int{1, 2, 2}},
		{"joined ones in their row", []int{1, 1, 1, 1, 2, 3}, []int{3, 3, 3, 3, 2, 2}},
		{"two joined as heavy as two that wait", []int{2, 2, 1, 1, 1, 1}, []int{2, 2, 3, 3, 3, 3}},
		{"the later of three waits", []int{3, 3, 3, 1}, []int{2, 2, 2, 2}},
		{"the first of three is taken", []int{3, 3, 3, 1, 1}, []int{2, 2, 2, 3, 3}},
	} {
		wantLengths(t, c.name, c.counts, 15, c.want)
	}
}

func TestEqualOnesOfEveryNumber(t *testing.T) {
	for n := 2; n <= api.MaxSymbols; n++ {
		for _, count := range []int{1, 3, greatest} {
			counts := slices.Repeat([]int{count}, n)
			high := 1
			for 1<<high < n {
				high++
			}
			want := slices.Repeat([]int{high}, n)
			for i := 2*n - 1<<high; i < n; i++ {
				want[i] = high - 1
			}
			wantLengths(t, "all alike", counts, high, want)
			wantLengths(t, "all alike", counts, api.MaxBits, want)
			if high > 1 {
				wantRefused(t, "all alike", counts, high-1)
			}
		}
	}
}

// A tree that is too deep by one level is halved once.
func TestHalvedOnce(t *testing.T) {
	for _, c := range []struct {
		name   string
		counts []int
		most   int
		want   []int
	}{
		// 1 1 1 2 3.
		{"growing", []int{1, 1, 2, 3, 5}, 3, []int{3, 3, 2, 2, 2}},
		// 1 1 1 2 4.
		{"doubling", []int{1, 1, 2, 4, 8}, 3, []int{3, 3, 3, 3, 1}},
		// 1 1 1 2 3; with 3 rounded down it would be 3 3 3 3 1.
		{"3 is 2", []int{1, 1, 2, 3, 6}, 3, []int{3, 3, 2, 2, 2}},
		// 1 1 1 2 4; with 7 rounded down it would be 3 3 2 2 2.
		{"7 is 4", []int{1, 1, 2, 4, 7}, 3, []int{3, 3, 3, 3, 1}},
		// 1 1 2 2 5; with 9 rounded down it would be 3 3 2 2 2.
		{"9 is 5", []int{1, 1, 4, 4, 9}, 3, []int{3, 3, 3, 3, 1}},
		// 1 1 2 4 4; with 3 and 7 rounded down it would be too deep again.
		{"7 is 4, 3 is 2", []int{1, 1, 3, 7, 8}, 3, []int{3, 3, 2, 2, 2}},
	} {
		want, halved := model(c.counts, c.most)
		if halved != 1 || !slices.Equal(want, c.want) {
			t.Errorf("%s: the model: %v, halved %d times, want %v", c.name, want, halved, c.want)
		}
		wantLengths(t, c.name, c.counts, c.most, c.want)
	}
}

// The trees of growing and of doubling counts are too deep over and over.
func TestHalvedSeveralTimes(t *testing.T) {
	most := 0
	for name, counts := range map[string][]int{
		"growing":            growing(40),
		"growing to the end": growing(46),
		"doubling":           doubling(31),
		"doubling, less 1":   less(doubling(31)),
		"the greatest last":  append(growing(45), greatest),
		"falling":            turned(growing(46)),
		"two rows":           append(doubling(31), turned(growing(46))...),
		"steep":              {1, 1, 1, greatest, greatest / 2, greatest / 4, greatest / 8, greatest / 16},
		"zeros among":        slices.Concat([]int{0, 0}, growing(20), make([]int, 9), doubling(20), []int{0}),
	} {
		for limited := 1; limited <= api.MaxBits; limited++ {
			if many(counts) > 1<<limited {
				wantRefused(t, name, counts, limited)
				continue
			}
			want, halved := model(counts, limited)
			most = max(most, halved)
			wantLengths(t, name, counts, limited, want)
		}
	}
	if most < 10 {
		t.Errorf("the counts are halved %d times at most", most)
	}
}

// less is each count with 1 taken away, but for those of 1.
func less(counts []int) []int {
	for i := range counts {
		counts[i] = max(1, counts[i]-1)
	}
	return counts
}

// turned is the counts, the last one first.
func turned(counts []int) []int {
	slices.Reverse(counts)
	return counts
}

// Growing counts make a tree as deep as can be: most is reached, not passed.
func TestJustAsDeepAsMost(t *testing.T) {
	for most := 1; most <= api.MaxBits; most++ {
		counts := growing(most + 1)
		want := []int{most}
		for n := most; n > 0; n-- {
			want = append(want, n)
		}
		wantLengths(t, "as deep as most", counts, most, want)
		if most == 1 {
			continue
		}
		got, err := limit.Lengths(growing(most+2), most)
		if err != api.OK || slices.Max(got) > most || huff.Check(got) != api.OK {
			t.Errorf("P4.1: one deeper than %d: %v, %d", most, got, err)
		}
	}
}

// Weights are sums of counts; the greatest ones of all pass 32 bits by far.
func TestGreatestSums(t *testing.T) {
	all := slices.Repeat([]int{greatest}, api.MaxSymbols)
	rising := make([]int, api.MaxSymbols)
	for i := range rising {
		rising[i] = greatest - api.MaxSymbols + i + 1
	}
	for name, counts := range map[string][]int{
		"all alike":        all,
		"rising":           rising,
		"one small one":    append(slices.Repeat([]int{greatest}, api.MaxSymbols-1), 1),
		"small ones ahead": append(slices.Repeat([]int{1}, 200), all[200:]...),
		"three":            {greatest, greatest, greatest},
		"five":             {greatest, greatest - 1, greatest, 1, greatest},
	} {
		for most := 1; most <= api.MaxBits; most++ {
			if many(counts) > 1<<most {
				wantRefused(t, name, counts, most)
				continue
			}
			want, _ := model(counts, most)
			wantLengths(t, name, counts, most, want)
		}
	}
}

// chance makes counts of a kind: small ones, steep ones, equal ones, zeros.
func chance(r *rand.Rand) []int {
	n := 2 + r.Intn(25)
	if r.Intn(4) == 0 {
		n = 2 + r.Intn(api.MaxSymbols-1)
	}
	counts := make([]int, n)
	kind := r.Intn(5)
	for i := range counts {
		switch kind {
		case 0:
			counts[i] = r.Intn(4)
		case 1:
			counts[i] = 1 << r.Intn(31)
		case 2:
			counts[i] = r.Intn(greatest)
		case 3:
			counts[i] = r.Intn(2) * (1 + r.Intn(3)) << r.Intn(28)
		case 4:
			counts[i] = max(0, r.Intn(40)-36)
		}
	}
	return counts
}

func TestByChance(t *testing.T) {
	r := rand.New(rand.NewSource(4))
	refused, often := 0, 0
	for range 3000 {
		counts := chance(r)
		most := 1 + r.Intn(api.MaxBits)
		if many(counts) > 1<<most {
			refused++
			wantRefused(t, "by chance", counts, most)
			continue
		}
		want, halved := model(counts, most)
		if halved > 1 {
			often++
		}
		wantLengths(t, "by chance", counts, most, want)
	}
	if refused < 100 || often < 100 {
		t.Errorf("the counts by chance are too much alike: %d refused, %d halved more than once", refused, often)
	}
}

// Where nothing is halved, no full code takes fewer bits in all.
func TestNoCodeIsShorter(t *testing.T) {
	bits := func(counts, lengths []int) int {
		sum := 0
		for i, n := range counts {
			sum += n * lengths[i]
		}
		return sum
	}
	r := rand.New(rand.NewSource(44))
	for range 200 {
		counts := make([]int, 2+r.Intn(12))
		for i := range counts {
			counts[i] = 1 + r.Intn(20)
		}
		got, err := limit.Lengths(counts, api.MaxBits)
		if err != api.OK {
			t.Fatalf("P4.1: %v: %d", counts, err)
		}
		for range 20 {
			other := split(r, len(counts))
			if bits(counts, other) < bits(counts, got) {
				t.Fatalf("P4.1: %v: %v, but %v is shorter", counts, got, other)
			}
		}
	}
}

// split makes the lengths of n codes that leave no room, by making one code
// into two that are a bit longer, over and over.
func split(r *rand.Rand, n int) []int {
	all := []int{0}
	for len(all) < n {
		i := r.Intn(len(all))
		all[i]++
		all = append(all, all[i])
	}
	return all
}

// The counts, and the room behind them, stay as they were.
func TestCountsStayAsTheyWere(t *testing.T) {
	for name, counts := range map[string][]int{
		"nil":            nil,
		"one":            {1},
		"below 0":        {1, -1},
		"none used":      {0, 0, 0},
		"one used":       {0, 0, 7},
		"one used ahead": {7, 0, 0},
		"halved":         growing(40),
		"refused":        slices.Repeat([]int{3}, api.MaxSymbols),
	} {
		for _, most := range []int{0, 1, 6, api.MaxBits, 99} {
			spare := append(slices.Clone(counts), 77, 78)
			before := slices.Clone(spare)
			got, _ := limit.Lengths(spare[:len(counts)], most)
			for i := range got {
				got[i] = -5
			}
			got = append(got, -6)
			if !slices.Equal(spare, before) {
				t.Errorf("R4: %s: most %d: the counts were changed", name, most)
			}
		}
	}
}

// Two answers are two lists, and no later call knows of an earlier one.
func TestAnswersStandAlone(t *testing.T) {
	for name, counts := range map[string][]int{
		"none used": {0, 0, 0, 0},
		"one used":  {0, 0, 9, 0},
		"some":      {5, 1, 2, 0},
	} {
		want, _ := model(counts, 3)
		first, _ := limit.Lengths(counts, 3)
		limit.Lengths(growing(30), 7)
		limit.Lengths([]int{1}, 7)
		if !slices.Equal(first, want) {
			t.Errorf("R4: %s: a later call changed %v, want %v", name, first, want)
		}
		for i := range first {
			first[i] = 99
		}
		wantLengths(t, name, counts, 3, want)
		kept, _ := limit.Lengths(counts, 3)
		counts[0], counts[1] = 0, 50
		if !slices.Equal(kept, want) {
			t.Errorf("R4: %s: the answer changed with the counts: %v, want %v", name, kept, want)
		}
	}
}

func TestFromSeveralGoroutines(t *testing.T) {
	counts := append(growing(40), make([]int, 100)...)
	want, _ := model(counts, 8)
	var all sync.WaitGroup
	for range 8 {
		all.Go(func() {
			for range 20 {
				got, err := limit.Lengths(counts, 8)
				if err != api.OK || !slices.Equal(got, want) {
					t.Errorf("R5: %v, %d, want %v", got, err, want)
				}
			}
		})
	}
	all.Wait()
}
