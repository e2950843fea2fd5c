package board

import (
	"slices"
	"strings"
	"testing"

	"scanchain/api"
)

// wantList returns a function that compares a list and an error with what is wanted.
func wantList[T comparable](t *testing.T, name string, want ...T) func([]T, api.Errno) {
	return func(got []T, e api.Errno) {
		t.Helper()
		if e != api.OK || !slices.Equal(got, want) {
			t.Errorf("%s: %v %v, not %v", name, got, e, want)
		}
	}
}

func TestNets(t *testing.T) {
	wantList(t, "nets", "m", "n", "o", "p")(Nets(fullBoard()))
	wantList[string](t, "nets")(Nets(api.Board{}))
	nets, e := Nets(largeBoard(api.MaxJoins, api.MaxNets))
	if e != api.OK || len(nets) != api.MaxNets || nets[99] != "k099" {
		t.Error(nets, e)
	}
}

func TestNetOf(t *testing.T) {
	b := fullBoard()
	for _, join := range b.Joins {
		if net, is, e := NetOf(b, join.Part, join.Pin); e != api.OK || !is || net != join.Net {
			t.Error(join, net, is, e)
		}
	}
	if net, is, e := NetOf(b, "a", "z"); e != api.OK || is || net != "" {
		t.Error(net, is, e)
	}
	for _, pin := range [][2]string{{"", ""}, {"", "x"}, {"d", "x"}, {"A", "x"}, {"a", "p"}, {"a", ""}, {"b", "x"}, {"c", "x"}, {"a", "X"}, {"a", strings.Repeat("x", 1000)}} {
		if net, is, e := NetOf(b, pin[0], pin[1]); e != api.ErrNone || is || net != "" {
			t.Error(pin, net, is, e)
		}
	}
}

func TestPins(t *testing.T) {
	b := fullBoard()
	wantList(t, "m", api.Pair{Name: "a", Value: "y"}, api.Pair{Name: "b", Value: "r"})(Pins(b, "m"))
	wantList(t, "n", api.Pair{Name: "a", Value: "x"}, api.Pair{Name: "b", Value: "p"})(Pins(b, "n"))
	wantList(t, "o", api.Pair{Name: "b", Value: "q"})(Pins(b, "o"))
	b.Joins = append(b.Joins[:2], api.Join{Net: "m0", Part: "a", Pin: "x"}, api.Join{Net: "m0", Part: "a", Pin: "z"})
	b.Pulls = nil
	wantList(t, "m0", api.Pair{Name: "a", Value: "x"}, api.Pair{Name: "a", Value: "z"})(Pins(b, "m0"))
}

func TestDriversAndReceivers(t *testing.T) {
	b := fullBoard()
	wantList(t, "drivers of m", api.Spot{Part: "a", Cell: 4}, api.Spot{Part: "b", Cell: 3})(Drivers(b, "m"))
	wantList(t, "receivers of m", api.Spot{Part: "b", Cell: 4})(Receivers(b, "m"))
	wantList(t, "drivers of n", api.Spot{Part: "a", Cell: 0})(Drivers(b, "n"))
	wantList(t, "receivers of n", api.Spot{Part: "a", Cell: 2}, api.Spot{Part: "b", Cell: 0})(Receivers(b, "n"))
	wantList(t, "drivers of o", api.Spot{Part: "b", Cell: 1})(Drivers(b, "o"))
	wantList[api.Spot](t, "receivers of o")(Receivers(b, "o"))
	wantList[api.Spot](t, "drivers of p")(Drivers(b, "p"))
	// By cell, not by pin.
	b = api.Board{
		Parts: []api.Component{{Key: "u", Cells: []api.Cell{in("z"), out("y"), in("a"), out("b")}}},
		Joins: []api.Join{{Net: "n", Part: "u", Pin: "a"}, {Net: "n", Part: "u", Pin: "b"}, {Net: "n", Part: "u", Pin: "y"}, {Net: "n", Part: "u", Pin: "z"}},
	}
	wantList(t, "drivers", api.Spot{Part: "u", Cell: 1}, api.Spot{Part: "u", Cell: 3})(Drivers(b, "n"))
	wantList(t, "receivers", api.Spot{Part: "u", Cell: 0}, api.Spot{Part: "u", Cell: 2})(Receivers(b, "n"))
}

func TestNoSuchNet(t *testing.T) {
	b := fullBoard()
	for _, net := range []string{"", "l", "mm", "q", "M", "m ", strings.Repeat("n", 1000)} {
		if r, e := Pins(b, net); e != api.ErrNone || len(r) != 0 {
			t.Error(net, r, e)
		}
		if r, e := Drivers(b, net); e != api.ErrNone || len(r) != 0 {
			t.Error(net, r, e)
		}
		if r, e := Receivers(b, net); e != api.ErrNone || len(r) != 0 {
			t.Error(net, r, e)
		}
	}
}

func TestTestable(t *testing.T) {
	wantList(t, "full", "m", "n")(Testable(fullBoard()))
	wantList[string](t, "none")(Testable(api.Board{}))
	b := api.Board{
		Parts: []api.Component{{Key: "u", Cells: []api.Cell{out("a"), in("a"), out("b"), in("c")}}},
		Joins: []api.Join{{Net: "k", Part: "u", Pin: "b"}, {Net: "l", Part: "u", Pin: "c"}, {Net: "m", Part: "u", Pin: "a"}},
	}
	wantList(t, "one pin", "m")(Testable(b))
}

func TestUnjoined(t *testing.T) {
	wantList(t, "full", api.Pair{Name: "a", Value: "z"})(Unjoined(fullBoard()))
	wantList[api.Pair](t, "none")(Unjoined(api.Board{}))
	b := fullBoard()
	b.Joins, b.Pulls = b.Joins[:1], nil
	b.Parts[1].Cells[0].Pin = "s9"
	wantList(t, "all but one",
		api.Pair{Name: "a", Value: "x"}, api.Pair{Name: "a", Value: "z"},
		api.Pair{Name: "b", Value: "q"}, api.Pair{Name: "b", Value: "r"}, api.Pair{Name: "b", Value: "s"}, api.Pair{Name: "b", Value: "s9"},
	)(Unjoined(b))
}

func TestDiffer(t *testing.T) {
	for _, c := range []struct {
		name                  string
		do                    func(b *api.Board)
		first, second, unlike []string
	}{
		{"nothing", func(b *api.Board) {}, nil, nil, nil},
		{"a net less", func(b *api.Board) { b.Joins = b.Joins[:5] }, []string{"p"}, nil, nil},
		{"a net with another name", func(b *api.Board) { b.Joins[4].Net = "nn" }, []string{"o"}, []string{"nn"}, nil},
		{"a pin less", func(b *api.Board) { b.Joins = slices.Delete(b.Joins, 2, 3) }, nil, nil, []string{"n"}},
		{"a pin more", func(b *api.Board) { b.Joins = slices.Insert(b.Joins, 3, api.Join{Net: "n", Part: "a", Pin: "z"}) }, nil, nil, []string{"n"}},
		{"a pin on another net", func(b *api.Board) { b.Joins[4].Net = "n" }, []string{"o"}, nil, []string{"n"}},
		{"another pin", func(b *api.Board) { b.Joins[5] = api.Join{Net: "p", Part: "a", Pin: "z"} }, nil, nil, []string{"p"}},
		{"another pin of the part", func(b *api.Board) { b.Joins[0].Pin = "z" }, nil, nil, []string{"m"}},
		{"another level", func(b *api.Board) { b.Pulls[0].Level = 0 }, nil, nil, []string{"m"}},
		{"a pull less", func(b *api.Board) { b.Pulls = b.Pulls[:1] }, nil, nil, []string{"n"}},
		{"a pull more", func(b *api.Board) { b.Pulls = append(b.Pulls, api.Pull{Net: "o", Level: 0}) }, nil, nil, []string{"o"}},
		{"cells", func(b *api.Board) { b.Parts[0].Cells[4].Off = 0 }, nil, nil, nil},
		{"everything", func(b *api.Board) { *b = api.Board{} }, []string{"m", "n", "o", "p"}, nil, nil},
		{"much", func(b *api.Board) {
			b.Joins[0].Net, b.Joins[1].Net, b.Joins[5].Net, b.Pulls = "a", "n", "q", b.Pulls[1:]
			slices.SortFunc(b.Joins, compareJoins)
		}, []string{"m", "p"}, []string{"a", "q"}, []string{"n"}},
	} {
		x, y := fullBoard(), fullBoard()
		c.do(&y)
		first, second, unlike, e := Differ(x, y)
		if e != api.OK || !slices.Equal(first, c.first) || !slices.Equal(second, c.second) || !slices.Equal(unlike, c.unlike) {
			t.Error(c.name, first, second, unlike, e)
		}
		first, second, unlike, e = Differ(y, x)
		if e != api.OK || !slices.Equal(first, c.second) || !slices.Equal(second, c.first) || !slices.Equal(unlike, c.unlike) {
			t.Error(c.name, first, second, unlike, e)
		}
	}
}

func TestDifferChecksFirstBoardFirst(t *testing.T) {
	x, y := fullBoard(), fullBoard()
	x.Parts[0].Key, y.Parts[1].Key = "", "a"
	if e, zero := differError(x, y); e != api.ErrName || !zero {
		t.Error(e)
	}
	if e, zero := differError(y, x); e != api.ErrOrder || !zero {
		t.Error(e)
	}
}
