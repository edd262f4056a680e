package vector_test

import (
	"math"
	"slices"
	"testing"

	"portage/api"
	"portage/vector"
)

// full is MaxCount, written out.
const full = 1048576

// grid is each vector of four counts from 0, 1, 2 and full.
func grid() [][]int {
	counts := [4]int{0, 1, 2, full}
	var all [][]int
	for i := range 4 * 4 * 4 * 4 {
		all = append(all, []int{counts[i%4], counts[i/4%4], counts[i/16%4], counts[i/64]})
	}
	return all
}

// with is v with another count at one node.
func with(v []int, node int, count int) []int {
	out := slices.Clone(v)
	out[node] = count
	return out
}

// wrong is lists that may not be, by what is wrong with them.
func wrong() map[string][]int {
	rows := map[string][]int{
		"nil":                      nil,
		"empty":                    {},
		"empty, with spare room":   make([]int, 0, 4),
		"one":                      {0},
		"two":                      {1, 2},
		"one too few":              {0, 0, 0},
		"one too few, all full":    {full, full, full},
		"one too few, spare room":  make([]int, 3, 4),
		"one too many":             {0, 0, 0, 0, 0},
		"one too many, all counts": {1, 2, 3, 4, 5},
		"twice as many":            make([]int, 8),
		"2^8 and 4":                make([]int, 260),
		"2^16 and 4":               make([]int, 65540),
		"all below 0":              {-1, -1, -1, -1},
		"all above":                {full + 1, full + 1, full + 1, full + 1},
		"below and above":          {-1, 0, 0, full + 1},
		"too few and below 0":      {0, -1, 0},
		"too many, the last below": {0, 0, 0, 0, -1},
	}
	names := [4]string{"first", "second", "third", "last"}
	for node, name := range names {
		for what, count := range map[string]int{
			"-1": -1, "-full": -full, "the least": math.MinInt, "the least of 32": math.MinInt32,
			"one above": full + 1, "two above": full + 2, "twice": 2 * full, "the most": math.MaxInt,
			"2^31-1": math.MaxInt32, "2^32": 1 << 32, "2^32+1": 1<<32 + 1, "2^62": 1 << 62,
		} {
			rows[name+" "+what+", else 0"] = with([]int{0, 0, 0, 0}, node, count)
			rows[name+" "+what+", else full"] = with([]int{full, full, full, full}, node, count)
			rows[name+" "+what+", else any"] = with([]int{3, 1, 4, 1}, node, count)
		}
	}
	return rows
}

func checkMay(t *testing.T, v []int, want bool) {
	t.Helper()
	for range 2 {
		if got := vector.May(v); got != want {
			t.Errorf("P11.1: May(%v): %v, want %v", v, got, want)
		}
	}
}

func TestMaxCount(t *testing.T) {
	if full != api.MaxCount || api.MaxNodes != 4 {
		t.Fatal("the test is wrong")
	}
}

func TestMay(t *testing.T) {
	for _, v := range [][]int{
		{0, 0, 0, 0}, {1, 2, 3, 4}, {4, 3, 2, 1}, {7, 0, 0, 0}, {0, 0, 0, 7},
		{full, full, full, full}, {full - 1, full, 0, 1},
		make([]int, 4, 9), []int{9, 9, 9, 9, -1}[:4], []int{-1, 0, 1, 2, 3}[1:],
	} {
		checkMay(t, v, true)
	}
	for _, v := range grid() {
		checkMay(t, v, true)
	}
}

func TestMayOfEachCountAtEachNode(t *testing.T) {
	for _, v := range [][]int{{0, 0, 0, 0}, {full, full, full, full}, {5, 6, 7, 8}} {
		for node := range v {
			for _, count := range []int{0, 1, 255, 256, 65535, 65536, full - 1, full} {
				checkMay(t, with(v, node, count), true)
			}
			for _, count := range []int{-1, full + 1} {
				checkMay(t, with(v, node, count), false)
			}
		}
	}
}

func TestMayOfEachLength(t *testing.T) {
	for n := range 300 {
		v := make([]int, n)
		checkMay(t, v, n == 4)
		for i := range v {
			v[i] = i + 1
		}
		checkMay(t, v, n == 4)
	}
}

func TestWhatMayNotBe(t *testing.T) {
	for what, v := range wrong() {
		if vector.May(v) {
			t.Errorf("P11.1: %s may be", what)
		}
	}
}
