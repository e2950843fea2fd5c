package flash

import (
	"math"
	"slices"
	"testing"

	"scanchain/api"
)

func flashOf(sectors ...int) api.Flash { return api.Flash{Sectors: sectors} }

var badFlashes = []struct {
	name string
	want api.Errno
	f    api.Flash
}{
	{"no sectors", api.ErrNone, flashOf()},
	{"many sectors", api.ErrLarge, flashOf(slices.Repeat([]int{1}, 21)...)},
	{"many sectors before a bad one", api.ErrLarge, flashOf(make([]int, 21)...)},
	{"no words", api.ErrArg, flashOf(1, 0)},
	{"fewer than no words", api.ErrArg, flashOf(-1, 1)},
	{"least words", api.ErrArg, flashOf(math.MinInt)},
	{"many words in a sector", api.ErrArg, flashOf(1, 4_097)},
	{"most words in a sector", api.ErrArg, flashOf(math.MaxInt, math.MaxInt)},
	{"a bad sector after many words", api.ErrArg, flashOf(4_096, 4_096, 0)},
	{"many words", api.ErrLarge, flashOf(4_096, 1)},
	{"many words", api.ErrLarge, flashOf(slices.Repeat([]int{4_096}, 20)...)},
}

func TestCheckFlash(t *testing.T) {
	for _, f := range []api.Flash{flashOf(1), flashOf(4_096), flashOf(1, 4_095), flashOf(slices.Repeat([]int{204}, 20)...), three()} {
		if e := CheckFlash(f); e != api.OK {
			t.Error(f, e)
		}
	}
	for _, c := range badFlashes {
		if e := CheckFlash(c.f); e != c.want {
			t.Errorf("%s: %v, not %v", c.name, e, c.want)
		}
	}
}

var badImages = []struct {
	name  string
	want  api.Errno
	words []int
}{
	{"no words", api.ErrForm, nil},
	{"few words", api.ErrForm, make([]int, 5)},
	{"many words", api.ErrForm, make([]int, 7)},
	{"a wrong number before a bad word", api.ErrForm, []int{-1}},
	{"below 0", api.ErrArg, []int{0, 0, 0, 0, 0, -1}},
	{"above the most", api.ErrArg, []int{65_536, 0, 0, 0, 0, 0}},
	{"least", api.ErrArg, []int{0, math.MinInt, 0, 0, 0, 0}},
	{"most", api.ErrArg, []int{0, 0, 0, math.MaxInt, 0, 0}},
}

func TestCheckImage(t *testing.T) {
	for _, words := range [][]int{make([]int, 6), slices.Repeat([]int{65_535}, 6), {0, 1, 2, 3, 4, 65_535}} {
		if e := CheckImage(three(), words); e != api.OK {
			t.Error(words, e)
		}
	}
	if e := CheckImage(flashOf(4_000, 96), make([]int, 4_096)); e != api.OK {
		t.Error(e)
	}
	for _, c := range badImages {
		if e := CheckImage(three(), c.words); e != c.want {
			t.Errorf("%s: %v, not %v", c.name, e, c.want)
		}
	}
}

func TestSectorOf(t *testing.T) {
	for address, want := range [][2]int{{0, 0}, {0, 0}, {1, 2}, {2, 3}, {2, 3}, {2, 3}} {
		if sector, first, e := SectorOf(three(), address); e != api.OK || sector != want[0] || first != want[1] {
			t.Error(address, sector, first, e)
		}
	}
	if sector, first, e := SectorOf(flashOf(4_095, 1), 4_095); e != api.OK || sector != 1 || first != 4_095 {
		t.Error(sector, first, e)
	}
	for _, address := range []int{-1, 6, math.MinInt, math.MaxInt} {
		if sector, first, e := SectorOf(three(), address); e != api.ErrArg || sector != 0 || first != 0 {
			t.Error(address, sector, first, e)
		}
	}
}

var badOps = []struct {
	name string
	want api.Errno
	op   api.Op
}{
	{"no kind", api.ErrKind, api.Op{}},
	{"a kind below", api.ErrKind, api.Op{Kind: -1, Address: -1, Value: -1}},
	{"a kind above", api.ErrKind, api.Op{Kind: 3}},
	{"the most", api.ErrKind, api.Op{Kind: math.MaxInt}},
	{"a sector below", api.ErrArg, erase(-1)},
	{"a sector above", api.ErrArg, erase(3)},
	{"a sector far above", api.ErrArg, erase(math.MaxInt)},
	{"no sector before a value", api.ErrArg, api.Op{Kind: api.OpErase, Address: 3, Value: 1}},
	{"a value", api.ErrForm, api.Op{Kind: api.OpErase, Address: 2, Value: 1}},
	{"a value below", api.ErrForm, api.Op{Kind: api.OpErase, Value: -1}},
	{"an address below", api.ErrArg, program(-1, 0)},
	{"an address above", api.ErrArg, program(6, 0)},
	{"an address far below", api.ErrArg, program(math.MinInt, 0)},
	{"a word below", api.ErrArg, program(0, -1)},
	{"a word above", api.ErrArg, program(0, 65_536)},
	{"a word far above", api.ErrArg, program(0, math.MaxInt)},
}

func TestCheckOps(t *testing.T) {
	for _, o := range [][]api.Op{nil, {erase(0), erase(2), erase(0)}, {program(0, 0), program(5, 65_535)}, slices.Repeat([]api.Op{erase(1)}, 50_000)} {
		if e := CheckOps(three(), o); e != api.OK {
			t.Error(len(o), e)
		}
	}
	for _, c := range badOps {
		if e := CheckOps(three(), []api.Op{erase(2), c.op, {Kind: 9}}); e != c.want {
			t.Errorf("%s: %v, not %v", c.name, e, c.want)
		}
	}
	if e := CheckOps(three(), []api.Op{program(6, 0), {Kind: 3}}); e != api.ErrArg {
		t.Error("the first operation", e)
	}
	if e := CheckOps(three(), make([]api.Op, 50_001)); e != api.ErrLarge {
		t.Error("many", e)
	}
	if e := CheckOps(three(), make([]api.Op, 50_000)); e != api.ErrKind {
		t.Error("not too many", e)
	}
}

// withFlash has all functions with a memory: whether what they return but for the error is zero, and the error. Images and operations are not those of a memory of one word.
var withFlash = map[string]func(f api.Flash) (bool, api.Errno){
	"image": func(f api.Flash) (bool, api.Errno) { return true, CheckImage(f, []int{-1}) },
	"sector": func(f api.Flash) (bool, api.Errno) {
		sector, first, e := SectorOf(f, -1)
		return sector == 0 && first == 0, e
	},
	"ops": func(f api.Flash) (bool, api.Errno) { return true, CheckOps(f, []api.Op{{}}) },
	"level": func(f api.Flash) (bool, api.Errno) {
		l, is, e := Level(f, []int{-1}, make([]int, 9))
		return len(l) == 0 && !is, e
	},
	"words": func(f api.Flash) (bool, api.Errno) {
		w, e := Words(f, []api.Block{{Address: -1}})
		return len(w) == 0, e
	},
	"apply": func(f api.Flash) (bool, api.Errno) { return withImage["apply"](f, []int{-1}) },
	"wear":  func(f api.Flash) (bool, api.Errno) { return withOps["wear"](f, []api.Op{{}}) },
}

// withImage has all functions with words, as withFlash.
var withImage = map[string]func(f api.Flash, words []int) (bool, api.Errno){
	"apply": func(f api.Flash, words []int) (bool, api.Errno) {
		w, e := Apply(f, words, []api.Op{{}})
		return len(w) == 0, e
	},
	"plan: now": func(f api.Flash, words []int) (bool, api.Errno) {
		o, e := Plan(f, words, []int{0, 0, 0, 0, 0, -1, -1})
		return len(o) == 0, e
	},
	"plan: wanted": func(f api.Flash, words []int) (bool, api.Errno) {
		o, e := Plan(f, make([]int, 6), words)
		return len(o) == 0, e
	},
	"drive": func(f api.Flash, words []int) (bool, api.Errno) {
		w, ignored, e := Drive(f, words, make([]api.Cycle, 50_001))
		return len(w) == 0 && len(ignored) == 0, e
	},
	"differ: the first ones": func(f api.Flash, words []int) (bool, api.Errno) {
		d, e := Differ(f, words, []int{0, 0, 0, 0, 0, -1, -1})
		return len(d) == 0, e
	},
	"differ: the second ones": func(f api.Flash, words []int) (bool, api.Errno) {
		d, e := Differ(f, make([]int, 6), words)
		return len(d) == 0, e
	},
}

// withOps has all functions with operations, as withFlash.
var withOps = map[string]func(f api.Flash, o []api.Op) (bool, api.Errno){
	"apply": func(f api.Flash, o []api.Op) (bool, api.Errno) {
		w, e := Apply(f, make([]int, 6), o)
		return len(w) == 0, e
	},
	"cycles": func(f api.Flash, o []api.Op) (bool, api.Errno) {
		c, e := Cycles(f, o)
		return len(c) == 0, e
	},
	"shifts": func(f api.Flash, o []api.Op) (bool, api.Errno) {
		n, e := Shifts(f, o, 0)
		return n == 0, e
	},
	"wear": func(f api.Flash, o []api.Op) (bool, api.Errno) {
		w, e := Wear(f, o)
		return len(w) == 0, e
	},
}

func TestFunctionsCheckTheMemoryFirst(t *testing.T) {
	for _, c := range badFlashes {
		for name, call := range withFlash {
			if isZero, e := call(c.f); e != c.want || !isZero {
				t.Errorf("%s, %s: %t %v, not %v", name, c.name, isZero, e, c.want)
			}
		}
		for name, call := range withImage {
			if isZero, e := call(c.f, []int{-1}); e != c.want || !isZero {
				t.Errorf("%s, %s: %t %v, not %v", name, c.name, isZero, e, c.want)
			}
		}
		for name, call := range withOps {
			if isZero, e := call(c.f, []api.Op{{}}); e != c.want || !isZero {
				t.Errorf("%s, %s: %t %v, not %v", name, c.name, isZero, e, c.want)
			}
		}
	}
}

func TestFunctionsCheckWordsAndOperations(t *testing.T) {
	for _, c := range badImages {
		for name, call := range withImage {
			if isZero, e := call(three(), c.words); e != c.want || !isZero {
				t.Errorf("%s, %s: %t %v, not %v", name, c.name, isZero, e, c.want)
			}
		}
	}
	for _, c := range badOps {
		for name, call := range withOps {
			if isZero, e := call(three(), []api.Op{erase(0), c.op}); e != c.want || !isZero {
				t.Errorf("%s, %s: %t %v, not %v", name, c.name, isZero, e, c.want)
			}
		}
	}
	for name, call := range withOps {
		if isZero, e := call(three(), make([]api.Op, 50_001)); e != api.ErrLarge || !isZero {
			t.Errorf("%s: %t %v", name, isZero, e)
		}
	}
}
