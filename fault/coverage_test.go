package fault

import (
	"cmp"
	"slices"
	"testing"

	"scanchain/api"
)

var everyKind = []int{api.FaultStuck0, api.FaultStuck1, api.FaultAnd, api.FaultOr, api.FaultFirst, api.FaultOpen}

func sameFaults(x, y []api.Fault) bool {
	return slices.EqualFunc(x, y, func(a, b api.Fault) bool { return a.Kind == b.Kind && slices.Equal(a.Nets, b.Nets) })
}

func wantFaults(t *testing.T, name string, want ...api.Fault) func(got []api.Fault, e api.Errno) {
	return func(got []api.Fault, e api.Errno) {
		t.Helper()
		if e != api.OK || !sameFaults(got, want) {
			t.Errorf("%s: %v %v, not %v", name, got, e, want)
		}
	}
}

func TestAll(t *testing.T) {
	wantFaults(t, "no kinds")(All(5, nil))
	wantFaults(t, "stuck", fault(1, 0), fault(1, 1), fault(1, 2))(All(3, []int{api.FaultStuck0}))
	wantFaults(t, "open", fault(6, 0), fault(6, 1))(All(2, []int{api.FaultOpen}))
	wantFaults(t, "and", fault(3, 0, 1), fault(3, 0, 2), fault(3, 1, 2))(All(3, []int{api.FaultAnd}))
	wantFaults(t, "or", fault(4, 0, 1))(All(2, []int{api.FaultOr}))
	wantFaults(t, "first", fault(5, 0, 1), fault(5, 0, 2), fault(5, 1, 0), fault(5, 1, 2), fault(5, 2, 0), fault(5, 2, 1))(All(3, []int{api.FaultFirst}))
	wantFaults(t, "shorts of one net")(All(1, []int{api.FaultAnd, api.FaultOr, api.FaultFirst}))
	wantFaults(t, "every kind of one net", fault(1, 0), fault(2, 0), fault(6, 0))(All(1, everyKind))
	wantFaults(t, "every kind", fault(1, 0), fault(1, 1), fault(2, 0), fault(2, 1), fault(3, 0, 1), fault(4, 0, 1), fault(5, 0, 1), fault(5, 1, 0), fault(6, 0), fault(6, 1))(All(2, everyKind))
}

func TestAllAreInOrder(t *testing.T) {
	for nets := 1; nets < 100; nets++ {
		f, e := All(nets, everyKind)
		if e != api.OK || len(f) != 3*nets+2*nets*(nets-1) {
			t.Fatal(nets, len(f), e)
		}
		for i, one := range f {
			if e := CheckFault(nets, one); e != api.OK {
				t.Fatal(nets, one, e)
			}
			if i > 0 && cmp.Or(cmp.Compare(f[i-1].Kind, one.Kind), slices.Compare(f[i-1].Nets, one.Nets)) >= 0 {
				t.Fatal(nets, f[i-1], one)
			}
		}
	}
}

func TestAllSize(t *testing.T) {
	for _, kind := range everyKind {
		if f, e := All(100, []int{kind}); e != api.OK || len(f) != map[int]int{3: 4950, 4: 4950, 5: 9900}[kind] && len(f) != 100 {
			t.Error(kind, len(f), e)
		}
	}
	if f, e := All(100, everyKind[1:]); e != api.OK || len(f) != api.MaxFaults {
		t.Error(len(f), e)
	}
	if f, e := All(100, everyKind); e != api.ErrLarge || len(f) != 0 {
		t.Error(len(f), e)
	}
}

func TestAllErrors(t *testing.T) {
	for _, c := range []struct {
		name  string
		nets  int
		kinds []int
		want  api.Errno
	}{
		{"no nets", 0, []int{1}, api.ErrArg},
		{"no nets nor kinds", 0, nil, api.ErrArg},
		{"below", -1, nil, api.ErrArg},
		{"many", 101, []int{1}, api.ErrArg},
		{"nets before kinds", 101, []int{0}, api.ErrArg},
		{"nets before their number", 0, make([]int, 7), api.ErrArg},
		{"seven kinds", 3, []int{1, 2, 3, 4, 5, 6, 7}, api.ErrLarge},
		{"their number before the kinds", 3, make([]int, 7), api.ErrLarge},
		{"no kind", 3, []int{0}, api.ErrKind},
		{"kind below", 3, []int{-1}, api.ErrKind},
		{"kind above", 3, []int{7}, api.ErrKind},
		{"kind later", 3, []int{1, 7}, api.ErrKind},
		{"kind before order", 3, []int{2, 0}, api.ErrKind},
		{"twice", 3, []int{1, 1}, api.ErrOrder},
		{"falls", 3, []int{1, 3, 2}, api.ErrOrder},
		{"order of the second before the third", 3, []int{2, 1, 7}, api.ErrOrder},
		{"the second before order of the third", 3, []int{2, 7, 1}, api.ErrKind},
		{"kinds before the number of faults", 100, []int{1, 2, 3, 4, 5, 5}, api.ErrOrder},
	} {
		if f, e := All(c.nets, c.kinds); e != c.want || len(f) != 0 {
			t.Errorf("%s: %v %v, not %v", c.name, f, e, c.want)
		}
	}
}

func wantFraction(t *testing.T, name string, num, den int) func(got api.Fraction, e api.Errno) {
	return func(got api.Fraction, e api.Errno) {
		t.Helper()
		if e != api.OK || got.Num != num || got.Den != den {
			t.Errorf("%s: %v %v, not %d/%d", name, got, e, num, den)
		}
	}
}

func wantGroups(t *testing.T, name string, want ...[]int) func(got [][]int, e api.Errno) {
	return func(got [][]int, e api.Errno) {
		t.Helper()
		if e != api.OK || !slices.EqualFunc(got, want, slices.Equal) {
			t.Errorf("%s: %v %v, not %v", name, got, e, want)
		}
	}
}

func TestCoverage(t *testing.T) {
	bits := []string{"01", "10", "11"}
	open, _ := All(3, []int{api.FaultOpen})
	stuck, _ := All(3, []int{api.FaultStuck0})
	wantList(t, "open", 2)(Undetected(bits, open))
	wantFraction(t, "open", 2, 3)(Coverage(bits, open))
	wantList[int](t, "stuck")(Undetected(bits, stuck))
	wantFraction(t, "stuck", 1, 1)(Coverage(bits, stuck))
	wantList(t, "last", 0)(Undetected(bits, open[2:]))
	wantFraction(t, "last", 0, 1)(Coverage(bits, open[2:]))
	wantList(t, "no vectors", 0, 1, 2)(Undetected([]string{"", "", ""}, open))
	wantFraction(t, "no vectors", 0, 1)(Coverage([]string{"", "", ""}, open))
	wantList[int](t, "no faults")(Undetected(bits, nil))
	half := []api.Fault{open[2], open[0], open[2], open[0]}
	wantList(t, "half", 0, 2)(Undetected(bits, half))
	wantFraction(t, "half", 1, 2)(Coverage(bits, half))
}

func TestGroups(t *testing.T) {
	bits := []string{"01", "10", "11"}
	f := []api.Fault{
		fault(api.FaultOpen, 0), fault(api.FaultOpen, 2), fault(api.FaultStuck1, 0), fault(api.FaultStuck1, 2),
		fault(api.FaultAnd, 0, 2), fault(api.FaultFirst, 0, 2), fault(api.FaultFirst, 2, 0), fault(api.FaultOr, 0, 1), fault(api.FaultFirst, 2, 0, 1),
	}
	wantGroups(t, "some", []int{0, 2, 6}, []int{1, 3}, []int{4, 5}, []int{7, 8})(Groups(bits, f))
	wantFraction(t, "some", 4, 9)(Resolution(bits, f))
	wantGroups(t, "none")(Groups(bits, nil))
	wantGroups(t, "no vectors", []int{0, 1})(Groups([]string{"", "", ""}, f[:2]))
	wantGroups(t, "two nets with the same change", []int{0}, []int{1})(Groups([]string{"01", "01"}, []api.Fault{fault(api.FaultOpen, 0), fault(api.FaultOpen, 1)}))
	wantGroups(t, "the same net with two changes", []int{0}, []int{1})(Groups([]string{"01"}, []api.Fault{fault(api.FaultOpen, 0), fault(api.FaultStuck0, 0)}))
	wantGroups(t, "one net more", []int{0}, []int{1})(Groups([]string{"1", "0", "0"}, []api.Fault{fault(api.FaultOr, 0, 1), fault(api.FaultOr, 0, 1, 2)}))
	wantFraction(t, "all", 1, 1)(Resolution(bits, f[:2]))
	wantFraction(t, "half", 1, 2)(Resolution(bits, []api.Fault{f[0], f[1], f[0], f[1]}))
}

func TestCurve(t *testing.T) {
	bits := []string{"01", "10", "11"}
	open, _ := All(3, []int{api.FaultOpen})
	wantList(t, "open", 1, 2)(Curve(bits, open))
	wantList(t, "no faults", 0, 0)(Curve(bits, nil))
	wantList[int](t, "no vectors")(Curve([]string{""}, open[:1]))
	wantList(t, "each one in its vector", 0, 1, 2, 3)(Curve([]string{"1011", "1101", "1110"}, open))
	wantList(t, "once each", 0, 2, 2)(Curve([]string{"010"}, []api.Fault{fault(api.FaultStuck0, 0), fault(api.FaultStuck0, 0)}))
	most := quiet(api.MaxNets, api.MaxTestLong)
	all, _ := All(api.MaxNets, []int{api.FaultStuck1, api.FaultOpen})
	wantList(t, "most", slices.Repeat([]int{200}, 64)...)(Curve(most, all))
}

func TestNoFaults(t *testing.T) {
	for _, bits := range [][]string{{"01", "10"}, {""}} {
		if c, e := Coverage(bits, nil); e != api.ErrNone || c != (api.Fraction{}) {
			t.Error(c, e)
		}
		if r, e := Resolution(bits, nil); e != api.ErrNone || r != (api.Fraction{}) {
			t.Error(r, e)
		}
	}
}

// wantFractionOf compares a fraction with one that need not be in lowest terms.
func wantFractionOf(t *testing.T, got api.Fraction, e api.Errno, part, whole int) {
	t.Helper()
	if e != api.OK || got.Den < 1 || got.Num*whole != part*got.Den {
		t.Error(got, e, part, whole)
	}
	for divisor := 2; divisor <= got.Den; divisor++ {
		if got.Num%divisor == 0 && got.Den%divisor == 0 {
			t.Error(got, divisor)
		}
	}
}

func TestCoverageIsPlain(t *testing.T) {
	randomCases(2000, 6, 5, 12, func(bits []string, f []api.Fault) {
		detected := plainDetected(bits, f, rangeTo(len(bits[0])))
		undetected := slices.DeleteFunc(rangeTo(len(f)), func(i int) bool { return slices.Contains(detected, i) })
		wantList(t, "undetected", undetected...)(Undetected(bits, f))
		groups := plainGroups(bits, f)
		wantGroups(t, "groups", groups...)(Groups(bits, f))
		var curve []int
		for vector := range bits[0] {
			curve = append(curve, len(plainDetected(bits, f, rangeTo(vector+1))))
		}
		wantList(t, "curve", curve...)(Curve(bits, f))
		if len(f) == 0 {
			return
		}
		c, e := Coverage(bits, f)
		wantFractionOf(t, c, e, len(detected), len(f))
		r, e := Resolution(bits, f)
		wantFractionOf(t, r, e, len(groups), len(f))
	})
}

func plainGroups(bits []string, f []api.Fault) [][]int {
	var groups [][]int
	var responses [][]string
	for i, one := range f {
		response := plainResponse(bits, one)
		group := slices.IndexFunc(responses, func(known []string) bool { return slices.Equal(known, response) })
		if group < 0 {
			group = len(groups)
			groups = append(groups, nil)
			responses = append(responses, response)
		}
		groups[group] = append(groups[group], i)
	}
	return groups
}
