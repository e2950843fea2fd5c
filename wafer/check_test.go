package wafer

import (
	"math"
	"slices"
	"strings"
	"testing"

	"scanchain/api"
)

const wide = "............................................................"

// filled returns a wafer of a size that has one byte everywhere.
func filled(wide, high int, die string) api.Wafer {
	return waferWith("1", slices.Repeat([]string{strings.Repeat(die, wide)}, high)...)
}

var badWafers = []struct {
	name string
	want api.Errno
	w    api.Wafer
}{
	{"no rows", api.ErrNone, api.Wafer{}},
	{"no rows before what passes", api.ErrNone, waferWith("!")},
	{"many rows", api.ErrLarge, filled(1, 61, "1")},
	{"many rows before a bad one", api.ErrLarge, filled(0, 61, "1")},
	{"an empty row", api.ErrNone, waferWith("1", "")},
	{"an empty row after others", api.ErrNone, waferWith("1", "1", "x", "")},
	{"a long row", api.ErrLarge, waferWith("1", wide+".")},
	{"a long row before its form", api.ErrLarge, waferWith("1", "1", wide+"!")},
	{"a shorter row", api.ErrForm, waferWith("1", "11", "1")},
	{"a longer row, before its bytes", api.ErrForm, waferWith("1", "11", "11", "11!")},
	{"an empty row before a longer one", api.ErrNone, waferWith("1", "1", "", "11")},
	{"a bad byte before an empty row", api.ErrSyntax, waferWith("1", "!", "")},
	{"what passes after a row", api.ErrForm, waferWith("!", "1", "11")},
	{"a pass that is no bin", api.ErrSyntax, waferWith("A", "1")},
	{"a pass that is no die", api.ErrSyntax, waferWith("1.", "1")},
	{"a pass that is untested", api.ErrSyntax, waferWith("?", "1")},
	{"a pass that is inked", api.ErrSyntax, waferWith("*", "1")},
	{"a pass of a blank", api.ErrSyntax, waferWith(" ", "1")},
	{"a pass above bins", api.ErrSyntax, waferWith("{", "1")},
	{"a pass of a byte above all", api.ErrSyntax, waferWith("1\xff", "1")},
	{"a pass twice", api.ErrOrder, waferWith("11", "1")},
	{"a pass that falls", api.ErrOrder, waferWith("10", "1")},
	{"letters before numbers", api.ErrOrder, waferWith("a1", "1")},
	{"no bin before the order", api.ErrSyntax, waferWith("1-", "1")},
	{"the order before no bin", api.ErrOrder, waferWith("11!", "1")},
	{"no bin, and then the order", api.ErrSyntax, waferWith("1!0", "1")},
	{"all bins and one more", api.ErrOrder, waferWith("0123456789abcdefghijklmnopqrstuvwxyz0", "1")},
}

func TestCheckWafer(t *testing.T) {
	for _, w := range []api.Wafer{
		cross(),
		waferWith("", "."),
		waferWith("0", "?"),
		waferWith("09az", "0123456789abcdefghijklmnopqrstuvwxyz.?*"),
		waferWith("0123456789abcdefghijklmnopqrstuvwxyz", "*"),
		filled(60, 60, "z"),
		filled(60, 1, "."),
		filled(1, 60, "?"),
	} {
		if e := CheckWafer(w); e != api.OK {
			t.Error(w, e)
		}
	}
	for _, c := range badWafers {
		if e := CheckWafer(c.w); e != c.want {
			t.Errorf("%s: %v, not %v", c.name, e, c.want)
		}
	}
}

func TestBytesOfWafers(t *testing.T) {
	for b := range 256 {
		die := string([]byte{byte(b)})
		isBin := '0' <= b && b <= '9' || 'a' <= b && b <= 'z'
		isMapped := isBin || b == '.' || b == '?' || b == '*'
		for _, w := range []api.Wafer{waferWith("", die), waferWith("", "1"+die+"1"), waferWith("", "11", die+"1"), waferWith("", "1", "1", die)} {
			if e := CheckWafer(w); e == api.OK != isMapped || e != api.OK && e != api.ErrSyntax {
				t.Errorf("%q: %v", die, e)
			}
		}
		if e := CheckWafer(waferWith(die, "1")); e == api.OK != isBin || e != api.OK && e != api.ErrSyntax {
			t.Errorf("%q: %v", die, e)
		}
	}
}

// withWafers has all functions with a wafer: whether what they return but for the error is zero, and the error. Their other arguments are wrong.
var withWafers = map[string]func(w api.Wafer) (bool, api.Errno){
	"check": func(w api.Wafer) (bool, api.Errno) { return true, CheckWafer(w) },
	"counts": func(w api.Wafer) (bool, api.Errno) {
		pairs, inked, untested, e := Counts(w)
		return len(pairs) == 0 && inked == 0 && untested == 0, e
	},
	"yield": func(w api.Wafer) (bool, api.Errno) {
		part, is, e := Yield(w)
		return part == api.Fraction{} && !is, e
	},
	"failed": func(w api.Wafer) (bool, api.Errno) {
		n, e := Failed(w, at(-1, -1))
		return n == 0, e
	},
	"clusters": func(w api.Wafer) (bool, api.Errno) {
		groups, e := Clusters(w, 0)
		return len(groups) == 0, e
	},
	"ink": func(w api.Wafer) (bool, api.Errno) {
		inked, n, e := Ink(w, 0)
		return isNone(inked) && n == 0, e
	},
	"edge": func(w api.Wafer) (bool, api.Errno) {
		edge, e := Edge(w)
		return len(edge) == 0, e
	},
	"rings": func(w api.Wafer) (bool, api.Errno) {
		parts, has, e := Rings(w)
		return len(parts) == 0 && len(has) == 0, e
	},
	"repeats": func(w api.Wafer) (bool, api.Errno) {
		found, e := Repeats(w, 0, 0, api.Fraction{})
		return len(found) == 0, e
	},
	"turned": func(w api.Wafer) (bool, api.Errno) {
		turned, e := Turned(w)
		return isNone(turned), e
	},
	"merge: the first one": func(w api.Wafer) (bool, api.Errno) {
		merged, e := Merge(w, waferWith("", "!"))
		return isNone(merged), e
	},
	"merge: the second one": func(w api.Wafer) (bool, api.Errno) {
		merged, e := Merge(waferWith("9", "1", "1"), w)
		return isNone(merged), e
	},
	"changes: the first one": func(w api.Wafer) (bool, api.Errno) {
		found, e := Changes(w, waferWith("", "!"))
		return len(found) == 0, e
	},
	"changes: the second one": func(w api.Wafer) (bool, api.Errno) {
		found, e := Changes(waferWith("9", "1", "1"), w)
		return len(found) == 0, e
	},
	"touched": func(w api.Wafer) (bool, api.Errno) {
		dies, n, e := Touched(w, nil, at(60, 60))
		return len(dies) == 0 && n == 0, e
	},
	"rows": func(w api.Wafer) (bool, api.Errno) {
		touchdowns, n, e := Rows(w, nil)
		return len(touchdowns) == 0 && n == 0, e
	},
	"fewest": func(w api.Wafer) (bool, api.Errno) {
		touchdowns, is, e := Fewest(w, nil)
		return len(touchdowns) == 0 && !is, e
	},
	"text": func(w api.Wafer) (bool, api.Errno) {
		text, e := Text(w)
		return text == "", e
	},
}

func TestFunctionsCheckTheWaferFirst(t *testing.T) {
	for name, call := range withWafers {
		for _, c := range badWafers {
			if isZero, e := call(c.w); e != c.want || !isZero {
				t.Errorf("%s, %s: %t %v, not %v", name, c.name, isZero, e, c.want)
			}
		}
	}
}

// line returns a card with sites beside each other.
func line(sites int) []api.Point {
	var card []api.Point
	for x := range sites {
		card = append(card, at(x, 0))
	}
	return card
}

var badCards = []struct {
	name string
	want api.Errno
	card []api.Point
}{
	{"no sites", api.ErrNone, nil},
	{"many sites", api.ErrLarge, line(9)},
	{"many sites before a bad one", api.ErrLarge, slices.Repeat([]api.Point{at(-1, -1)}, 9)},
	{"x below", api.ErrArg, []api.Point{at(-1, 0), at(0, 0)}},
	{"y below", api.ErrArg, []api.Point{at(0, -1)}},
	{"x above", api.ErrArg, []api.Point{at(0, 0), at(60, 0)}},
	{"y above", api.ErrArg, []api.Point{at(0, 0), at(0, 60)}},
	{"the least x", api.ErrArg, []api.Point{at(math.MinInt, 0)}},
	{"the most x", api.ErrArg, []api.Point{at(0, 0), at(math.MaxInt, 0)}},
	{"the least y", api.ErrArg, []api.Point{at(0, math.MinInt)}},
	{"the most y", api.ErrArg, []api.Point{at(0, 0), at(0, math.MaxInt)}},
	{"a range before the order", api.ErrArg, []api.Point{at(1, 1), at(-1, 1)}},
	{"twice", api.ErrOrder, []api.Point{at(0, 0), at(0, 0)}},
	{"x falls", api.ErrOrder, []api.Point{at(1, 0), at(0, 0)}},
	{"y falls", api.ErrOrder, []api.Point{at(0, 1), at(1, 0)}},
	{"in order of x", api.ErrOrder, []api.Point{at(0, 0), at(0, 1), at(1, 0)}},
	{"the order before a range", api.ErrOrder, []api.Point{at(0, 0), at(0, 0), at(-1, 0)}},
	{"the order before the form", api.ErrOrder, []api.Point{at(2, 2), at(1, 2)}},
	{"no site at the left", api.ErrForm, []api.Point{at(1, 0)}},
	{"no site at the top", api.ErrForm, []api.Point{at(0, 1)}},
	{"no site at the left of several", api.ErrForm, []api.Point{at(3, 0), at(1, 1), at(2, 1)}},
	{"no site at the top of several", api.ErrForm, []api.Point{at(3, 1), at(0, 2), at(2, 2)}},
	{"far away", api.ErrForm, []api.Point{at(59, 59)}},
}

func TestCheckCard(t *testing.T) {
	for _, card := range [][]api.Point{
		line(1),
		line(8),
		{at(0, 0), at(59, 0), at(0, 59), at(59, 59)},
		{at(59, 0), at(0, 59)},
		{at(5, 0), at(3, 1), at(0, 2)},
	} {
		if e := CheckCard(card); e != api.OK {
			t.Error(card, e)
		}
	}
	for _, c := range badCards {
		if e := CheckCard(c.card); e != c.want {
			t.Errorf("%s: %v, not %v", c.name, e, c.want)
		}
	}
}

// withCards has all functions with a card, as withWafers. The wafer has too many dies for Fewest.
var withCards = map[string]func(card []api.Point) (bool, api.Errno){
	"check": func(card []api.Point) (bool, api.Errno) { return true, CheckCard(card) },
	"touched": func(card []api.Point) (bool, api.Errno) {
		dies, n, e := Touched(filled(15, 1, "?"), card, at(60, 60))
		return len(dies) == 0 && n == 0, e
	},
	"rows": func(card []api.Point) (bool, api.Errno) {
		touchdowns, n, e := Rows(filled(15, 1, "?"), card)
		return len(touchdowns) == 0 && n == 0, e
	},
	"fewest": func(card []api.Point) (bool, api.Errno) {
		touchdowns, is, e := Fewest(filled(15, 1, "?"), card)
		return len(touchdowns) == 0 && !is, e
	},
}

func TestFunctionsCheckTheCard(t *testing.T) {
	for name, call := range withCards {
		for _, c := range badCards {
			if isZero, e := call(c.card); e != c.want || !isZero {
				t.Errorf("%s, %s: %t %v, not %v", name, c.name, isZero, e, c.want)
			}
		}
	}
}
