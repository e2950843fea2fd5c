package flash

import (
	"slices"
	"strings"
	"sync"
	"testing"

	"scanchain/api"
)

// spare returns a list with elements that are not valid in the memory behind it.
func spare[T any](bad T, good ...T) []T {
	return append(slices.Clone(good), bad, bad)[:len(good)]
}

type arguments struct {
	f                      api.Flash
	now, want, worn, sizes []int
	o                      []api.Op
	c                      []api.Cycle
	b                      []api.Block
	bytes                  []byte
}

func givenArguments() arguments {
	return arguments{
		f:     api.Flash{Sectors: spare(-1, 2, 1, 3)},
		now:   spare(-1, 65_535, 1, 2, 3, 4, 65_535),
		want:  spare(-1, 7, 1, 4, 3, 4, 0),
		worn:  spare(-1, 3, 2, 1),
		sizes: spare(-1, 1, 1),
		o:     spare(api.Op{Kind: 9}, program(0, 7), erase(1), program(2, 4), program(5, 0)),
		c:     spare(cycle(-1, -1), cycle(0, 0), cycle(1365, 170), cycle(682, 85), cycle(1365, 160), cycle(1, 0)),
		b:     spare(api.Block{Address: -1}, api.Block{Address: 1, Bytes: spare(99, []byte{5, 6}...)}, api.Block{Address: 3, Bytes: spare(99, []byte{7}...)}),
		bytes: spare(99, []byte("123456789")...),
	}
}

func useAll(t *testing.T, a arguments) {
	t.Helper()
	const text = ":020001000506F2\n:0100030007F5\n:00000001FF\n"
	wantList(t, "apply", a.want...)(Apply(a.f, a.now, a.o))
	wantList(t, "plan", a.o...)(Plan(a.f, a.now, a.want))
	wantList(t, "wear", 0, 1, 0)(Wear(a.f, a.o))
	wantList(t, "differ", api.Window{From: 0, To: 1}, api.Window{From: 2, To: 3}, api.Window{From: 5, To: 6})(Differ(a.f, a.now, a.want))
	wantLevel(t, "level", a.f, a.worn, a.sizes, []int{1, 2}, true)
	wantDriven(t, "drive", a.f, a.now, a.c, []int{65_535, 0, 2, 3, 4, 65_535}, []int{0})
	wantList(t, "words", 0xFF05, 0x0607, 65_535, 65_535, 65_535, 65_535)(Words(a.f, a.b))
	wantWritten(t, "write", text, a.b...)
	wantParsed(t, "parse", text, api.Block{Address: 1, Bytes: []byte{5, 6, 7}})
	if c, e := Cycles(a.f, a.o); e != api.OK || len(c) != 18 {
		t.Error(c, e)
	}
	if n, e := Shifts(a.f, a.o, 1); e != api.OK || n != 18*8 {
		t.Error(n, e)
	}
	if n, e := Crc(a.bytes); e != api.OK || n != 10_673 {
		t.Error(n, e)
	}
	if sector, first, e := SectorOf(a.f, 4); e != api.OK || sector != 2 || first != 3 {
		t.Error(sector, first, e)
	}
}

// sameSpare reports whether two lists are the same, and what is behind them.
func sameSpare[T comparable](x, y []T) bool {
	return len(x) == len(y) && slices.Equal(x[:len(x)+2], y[:len(y)+2])
}

func TestArgumentsStay(t *testing.T) {
	a, b := givenArguments(), givenArguments()
	useAll(t, a)
	if !sameSpare(a.f.Sectors, b.f.Sectors) || !sameSpare(a.now, b.now) || !sameSpare(a.want, b.want) || !sameSpare(a.worn, b.worn) || !sameSpare(a.sizes, b.sizes) {
		t.Error("changed", a)
	}
	if !sameSpare(a.o, b.o) || !sameSpare(a.c, b.c) || !sameSpare(a.bytes, b.bytes) {
		t.Error("changed", a)
	}
	if !sameBlocks(a.b[:4], b.b[:4]) || !sameSpare(a.b[0].Bytes, b.b[0].Bytes) || !sameSpare(a.b[1].Bytes, b.b[1].Bytes) {
		t.Error("changed", a)
	}
}

// spoil changes a result, and what is behind it.
func spoil[T any](list []T, bad T) {
	list = list[:cap(list)]
	for i := range list {
		list[i] = bad
	}
}

func TestResultsAreNew(t *testing.T) {
	a := givenArguments()
	for _, same := range [][]int{a.now, a.want} {
		applied, _ := Apply(a.f, same, nil)
		spoil(applied, -9)
		driven, ignored, _ := Drive(a.f, same, nil)
		spoil(driven, -9)
		spoil(ignored, -9)
	}
	driven, ignored, _ := Drive(a.f, a.now, a.c)
	spoil(driven, -9)
	spoil(ignored, -9)
	planned, _ := Plan(a.f, a.now, a.want)
	spoil(planned, api.Op{})
	cycles, _ := Cycles(a.f, a.o)
	spoil(cycles, api.Cycle{})
	words, _ := Words(a.f, a.b)
	spoil(words, -9)
	level, _, _ := Level(a.f, a.worn, a.sizes)
	spoil(level, -9)
	useAll(t, a)
	const text = ":0100090008EE\n:0100010007F7\n:0100020006F7\n:00000001FF\n"
	blocks, _, _ := Parse(text)
	spoil(blocks[0].Bytes, 255)
	if !slices.Equal(blocks[1].Bytes, []byte{8}) {
		t.Error("shared", blocks)
	}
	wantParsed(t, "again", text, api.Block{Address: 1, Bytes: []byte{7, 6}}, api.Block{Address: 9, Bytes: []byte{8}})
}

func TestFunctionsRunAtOnce(t *testing.T) {
	a := givenArguments()
	var all sync.WaitGroup
	for range 8 {
		all.Go(func() {
			for range 20 {
				useAll(t, a)
			}
		})
	}
	all.Wait()
}

func TestLargeArgumentsReturn(t *testing.T) {
	const most = 200_000
	for name, call := range withFlash {
		if isZero, e := call(flashOf(make([]int, most)...)); e != api.ErrLarge || !isZero {
			t.Errorf("%s: %t %v", name, isZero, e)
		}
	}
	for name, call := range withImage {
		if isZero, e := call(three(), make([]int, most)); e != api.ErrForm || !isZero {
			t.Errorf("%s: %t %v", name, isZero, e)
		}
	}
	for name, call := range withOps {
		if isZero, e := call(three(), make([]api.Op, most)); e != api.ErrLarge || !isZero {
			t.Errorf("%s: %t %v", name, isZero, e)
		}
	}
	if words, ignored, e := Drive(three(), make([]int, 6), make([]api.Cycle, most)); e != api.ErrLarge || len(words)+len(ignored) != 0 {
		t.Error(words, ignored, e)
	}
	if sectors, is, e := Level(three(), make([]int, most), nil); e != api.ErrForm || is || len(sectors) != 0 {
		t.Error(sectors, is, e)
	}
	if sectors, is, e := Level(three(), make([]int, 3), make([]int, most)); e != api.ErrLarge || is || len(sectors) != 0 {
		t.Error(sectors, is, e)
	}
	for _, b := range [][]api.Block{make([]api.Block, most), slices.Repeat([]api.Block{block(0, most)}, 1_000)} {
		if e := CheckBlocks(b); e != api.ErrLarge {
			t.Error(e)
		}
	}
	large := flashOf(4_096)
	if words, e := Apply(large, make([]int, 4_096), slices.Repeat([]api.Op{erase(0)}, 50_000)); e != api.OK || words[4_095] != 65_535 {
		t.Error(e)
	}
	for _, line := range []string{"\n", ":\n", ":00\n", written(0, 0, 1), lastRecord} {
		if b, _, e := Parse(strings.Repeat(line, most/len(line))); e == api.OK || len(b) != 0 {
			t.Error(line, e)
		}
	}
}
