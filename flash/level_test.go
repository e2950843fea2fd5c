package flash

import (
	"math"
	"math/rand/v2"
	"slices"
	"testing"

	"scanchain/api"
)

func wantLevel(t *testing.T, name string, f api.Flash, worn, sizes, want []int, is bool) {
	t.Helper()
	sectors, got, e := Level(f, worn, sizes)
	if e != api.OK || got != is || !slices.Equal(sectors, want) {
		t.Errorf("%s: %v %t %v, not %v %t", name, sectors, got, e, want, is)
	}
}

func TestLevel(t *testing.T) {
	wantLevel(t, "no files", three(), []int{1, 2, 3}, nil, nil, true)
	wantLevel(t, "the least worn", three(), []int{3, 1, 2}, []int{1}, []int{1}, true)
	wantLevel(t, "the least worn that is large enough", three(), []int{3, 1, 2}, []int{2}, []int{2}, true)
	wantLevel(t, "exactly as large", three(), []int{0, 0, 1_000_000}, []int{3}, []int{2}, true)
	wantLevel(t, "none is large enough", three(), []int{0, 0, 0}, []int{4}, nil, false)
	wantLevel(t, "more files than sectors", three(), []int{0, 0, 0}, []int{1, 1, 1, 1}, nil, false)
	wantLevel(t, "each in one of its own", three(), []int{0, 0, 0}, []int{2, 3, 2}, nil, false)
	wantLevel(t, "all sectors", three(), []int{7, 7, 7}, []int{1, 3, 2}, []int{1, 2, 0}, true)
	wantLevel(t, "the smallest list", flashOf(5, 5, 5, 5), []int{2, 1, 1, 1}, []int{1, 1}, []int{1, 2}, true)
	wantLevel(t, "the first file is not alone", flashOf(4, 4, 9), []int{1, 0, 5}, []int{1, 9, 1}, []int{0, 2, 1}, true)
	wantLevel(t, "a large file later takes the sector of a small one", flashOf(1, 9), []int{8, 1}, []int{1, 9}, []int{0, 1}, true)
	wantLevel(t, "one sector", flashOf(4_096), []int{1_000_000}, []int{4_096}, []int{0}, true)
	wantLevel(t, "one sector, two files", flashOf(4_096), []int{0}, []int{1, 1}, nil, false)
}

func TestLevelIsTheBestWay(t *testing.T) {
	randomCases(500, func(r *rand.Rand, f api.Flash) {
		worn := make([]int, len(f.Sectors))
		for sector := range worn {
			worn[sector] = []int{0, 1, 2, 1_000_000, r.IntN(100)}[r.IntN(5)]
		}
		sizes := make([]int, r.IntN(6))
		for file := range sizes {
			sizes[file] = 1 + r.IntN(4)
		}
		want, is := leveled(f, worn, sizes)
		wantLevel(t, "random", f, worn, sizes, want, is)
	})
}

func TestLevelOfManySectors(t *testing.T) {
	f := flashOf(slices.Repeat([]int{204}, 20)...)
	worn := slices.Repeat([]int{1_000_000}, 20)
	ones := slices.Repeat([]int{204}, 8)
	wantLevel(t, "all alike", f, worn, ones, []int{0, 1, 2, 3, 4, 5, 6, 7}, true)
	worn[0], worn[19] = 0, 999_999
	wantLevel(t, "the last one is less worn", f, worn, ones, []int{0, 1, 2, 3, 4, 5, 6, 19}, true)
	for i := range worn {
		worn[i] = 19 - i
	}
	wantLevel(t, "the last ones", f, worn, ones, []int{12, 13, 14, 15, 16, 17, 18, 19}, true)
	f.Sectors[19] = 100
	wantLevel(t, "the last one is small", f, worn, ones, []int{11, 12, 13, 14, 15, 16, 17, 18}, true)
}

func TestLevelErrors(t *testing.T) {
	for _, c := range []struct {
		name        string
		want        api.Errno
		worn, sizes []int
	}{
		{"few numbers", api.ErrForm, []int{0, 0}, []int{1}},
		{"many numbers", api.ErrForm, []int{0, 0, 0, 0}, []int{1}},
		{"no numbers", api.ErrForm, nil, nil},
		{"a wrong number of them before what is not one", api.ErrForm, []int{-1}, nil},
		{"worn less than nothing", api.ErrArg, []int{0, -1, 0}, []int{1}},
		{"worn too often", api.ErrArg, []int{0, 0, 1_000_001}, []int{1}},
		{"worn least", api.ErrArg, []int{math.MinInt, 0, 0}, nil},
		{"worn most", api.ErrArg, []int{0, math.MaxInt, 0}, nil},
		{"worn before many files", api.ErrArg, []int{-1, 0, 0}, make([]int, 9)},
		{"many files", api.ErrLarge, []int{0, 0, 0}, []int{1, 1, 1, 1, 1, 1, 1, 1, 1}},
		{"many files before a bad one", api.ErrLarge, []int{0, 0, 0}, make([]int, 9)},
		{"a file without words", api.ErrArg, []int{0, 0, 0}, []int{1, 0}},
		{"a file of less than nothing", api.ErrArg, []int{0, 0, 0}, []int{-1}},
		{"a large file", api.ErrArg, []int{0, 0, 0}, []int{4_097}},
		{"the largest file", api.ErrArg, []int{0, 0, 0}, []int{4, math.MaxInt}},
	} {
		if sectors, is, e := Level(three(), c.worn, c.sizes); e != c.want || is || len(sectors) != 0 {
			t.Errorf("%s: %v %t %v, not %v", c.name, sectors, is, e, c.want)
		}
	}
	wantLevel(t, "as many files as can be", three(), []int{0, 0, 0}, []int{1, 1, 1, 1, 1, 1, 1, 4_096}, nil, false)
}
