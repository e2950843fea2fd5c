package diagnose

import (
	"slices"
	"strings"
	"testing"

	"scanchain/api"
	"scanchain/fault"
	"scanchain/pattern"
)

func wantCandidates(t *testing.T, name string, d api.Dictionary, s []api.Seen, isGood bool, want ...string) {
	t.Helper()
	got, good, e := Candidates(d, s)
	if e != api.OK || good != isGood || !slices.Equal(got, want) {
		t.Errorf("%s: %v %v %v, not %v %v", name, got, good, e, want, isGood)
	}
}

func TestCandidates(t *testing.T) {
	wantCandidates(t, "one test failed", small(), []api.Seen{seen(0, "1")}, false, "a", "c")
	wantCandidates(t, "one test passed", small(), []api.Seen{seen(1, "0")}, true, "a", "d")
	wantCandidates(t, "both", small(), []api.Seen{seen(0, "1"), seen(1, "1")}, false, "c")
	wantCandidates(t, "both passed", small(), []api.Seen{seen(0, "0"), seen(1, "0")}, true, "d")
	wantCandidates(t, "nothing seen", small(), nil, true, "a", "b", "c", "d")
	wantCandidates(t, "a response of none", small(), []api.Seen{seen(0, "2")}, false)
	wantCandidates(t, "no faults, passed", dictionary("0"), []api.Seen{seen(0, "0")}, true)
	wantCandidates(t, "no faults, failed", dictionary("0"), []api.Seen{seen(0, "00")}, false)
	wantCandidates(t, "no faults, nothing seen", dictionary("0"), nil, true)
	randomCases(500, 5, 7, func(d api.Dictionary, _ []int, s []api.Seen) {
		responds := func(fault string) bool {
			return !slices.ContainsFunc(s, func(one api.Seen) bool { return responseOf(d, fault, one.Test) != one.Response })
		}
		var want []string
		for _, fault := range faultsOf(d) {
			if responds(fault) {
				want = append(want, fault)
			}
		}
		wantCandidates(t, "random", d, s, responds(""), want...)
	})
}

func TestMoreSeenLeavesNoMoreCandidates(t *testing.T) {
	randomCases(300, 6, 8, func(d api.Dictionary, _ []int, s []api.Seen) {
		before, wasGood, _ := Candidates(d, nil)
		for many := range s {
			after, isGood, e := Candidates(d, s[:many+1])
			if e != api.OK || isGood && !wasGood || slices.ContainsFunc(after, func(fault string) bool { return !slices.Contains(before, fault) }) {
				t.Error(before, after, e)
			}
			before, wasGood = after, isGood
		}
	})
}

// ofFaults returns the dictionary of all single faults of nets: its tests are the vectors.
func ofFaults(t *testing.T, nets int, v []string) (api.Dictionary, []api.Fault) {
	t.Helper()
	all, e := fault.All(nets, []int{api.FaultStuck0, api.FaultStuck1, api.FaultAnd, api.FaultOr})
	if e != api.OK {
		t.Fatal(e)
	}
	sequences, _ := pattern.Sequences(nets, v)
	d := api.Dictionary{Good: v}
	for _, one := range all {
		response, e := fault.Response(sequences, one)
		if e != api.OK {
			t.Fatal(e)
		}
		seenVectors, _ := pattern.FromSequences(response)
		name, _ := fault.Text([]api.Fault{one})
		d.Rows = append(d.Rows, api.Row{Fault: strings.ReplaceAll(strings.TrimSpace(name), " ", "-"), Responses: seenVectors})
	}
	slices.SortFunc(d.Rows, func(x, y api.Row) int { return strings.Compare(x.Fault, y.Fault) })
	return d, all
}

func TestTheFaultIsAmongTheCandidates(t *testing.T) {
	v, e := pattern.Complemented(5)
	if e != api.OK {
		t.Fatal(e)
	}
	d, all := ofFaults(t, 5, v)
	if len(d.Rows) != len(all) {
		t.Fatal(len(d.Rows))
	}
	for _, row := range d.Rows {
		var s []api.Seen
		for test, response := range row.Responses {
			s = append(s, seen(test, response))
			candidates, _, e := Candidates(d, s)
			if e != api.OK || !slices.Contains(candidates, row.Fault) {
				t.Error(row.Fault, candidates, e)
			}
			nearest, n, e := Nearest(d, s)
			if e != api.OK || n != 0 || !slices.Equal(nearest, candidates) {
				t.Error(row.Fault, nearest, n, e)
			}
		}
		// All of these faults are detected, so a board without faults is not consistent with all responses.
		if _, good, e := Candidates(d, s); e != api.OK || good {
			t.Error(row.Fault, good, e)
		}
	}
}

func wantNearest(t *testing.T, name string, d api.Dictionary, s []api.Seen, differing int, want ...string) {
	t.Helper()
	got, n, e := Nearest(d, s)
	if e != api.OK || n != differing || !slices.Equal(got, want) {
		t.Errorf("%s: %v %d %v, not %v %d", name, got, n, e, want, differing)
	}
}

func TestNearest(t *testing.T) {
	wantNearest(t, "one differs", small(), []api.Seen{seen(0, "x"), seen(1, "1")}, 1, "b", "c")
	wantNearest(t, "none differs", small(), []api.Seen{seen(0, "1"), seen(1, "1")}, 0, "c")
	wantNearest(t, "all differ", small(), []api.Seen{seen(0, "x"), seen(1, "x")}, 2, "a", "b", "c", "d")
	wantNearest(t, "nothing seen", small(), nil, 0, "a", "b", "c", "d")
	wantNearest(t, "no faults", dictionary("0 0"), []api.Seen{seen(0, "1")}, 0)
	wantNearest(t, "no faults, nothing seen", dictionary("0 0"), nil, 0)
	wantNearest(t, "a later one is nearer", dictionary("0 0 0", "a 0 0 0", "b 1 0 0", "c 1 1 0", "d 0 1 1"), []api.Seen{seen(0, "1"), seen(1, "1"), seen(2, "1")}, 1, "c", "d")
	wantNearest(t, "not a board without faults", dictionary("0", "a 1"), []api.Seen{seen(0, "0")}, 1, "a")
	randomCases(500, 5, 7, func(d api.Dictionary, _ []int, s []api.Seen) {
		by := map[int][]string{}
		least := len(s)
		for _, fault := range faultsOf(d) {
			n := 0
			for _, one := range s {
				if responseOf(d, fault, one.Test) != one.Response {
					n++
				}
			}
			by[n] = append(by[n], fault)
			least = min(least, n)
		}
		if len(d.Rows) == 0 {
			least = 0
		}
		wantNearest(t, "random", d, s, least, by[least]...)
	})
}

func wantExplained(t *testing.T, name string, d api.Dictionary, s []api.Seen, is bool, want ...string) {
	t.Helper()
	got, isExplained, e := Explain(d, s)
	if e != api.OK || isExplained != is || !slices.Equal(got, want) {
		t.Errorf("%s: %v %v %v, not %v %v", name, got, isExplained, e, want, is)
	}
}

func TestExplain(t *testing.T) {
	three := dictionary("0 0 0", "a 1 0 0", "b 0 1 0", "c 0 1 1", "d 1 1 0", "e 0 0 1")
	all := []api.Seen{seen(0, "x"), seen(1, "x"), seen(2, "x")}
	wantExplained(t, "by one", small(), []api.Seen{seen(0, "1"), seen(1, "1")}, true, "c")
	wantExplained(t, "not by one that a test that passed detects", small(), []api.Seen{seen(0, "1"), seen(1, "0")}, true, "a")
	wantExplained(t, "by the first of two", small(), []api.Seen{seen(0, "1")}, true, "a")
	wantExplained(t, "by a response of none", small(), []api.Seen{seen(0, "x")}, true, "a")
	wantExplained(t, "by two, the least ones", three, all, true, "a", "c")
	wantExplained(t, "by the one that can be", three, []api.Seen{seen(0, "0"), seen(1, "x"), seen(2, "x")}, true, "c")
	wantExplained(t, "by none, as all passed", small(), []api.Seen{seen(0, "0"), seen(1, "0")}, true)
	wantExplained(t, "nothing seen", three, nil, true)
	wantExplained(t, "failed, and nothing detects it", dictionary("0 0", "a 0 1"), []api.Seen{seen(0, "1")}, false)
	wantExplained(t, "failed, and what detects it cannot be", dictionary("0 0", "a 1 1"), []api.Seen{seen(0, "1"), seen(1, "0")}, false)
	wantExplained(t, "by two, as none that both detect can be", three, []api.Seen{seen(0, "1"), seen(1, "0"), seen(2, "1")}, true, "a", "e")
	wantExplained(t, "no faults, failed", dictionary("0"), []api.Seen{seen(0, "1")}, false)
	wantExplained(t, "no faults, passed", dictionary("0"), []api.Seen{seen(0, "0")}, true)
	wantExplained(t, "by three", dictionary("0 0 0 0", "a 1 0 0 1", "b 0 1 0 0", "c 0 1 0 1", "d 0 0 1 0", "e 1 0 0 0"), append(all, seen(3, "0")), true, "b", "d", "e")
	wantExplained(t, "fewer before the least", dictionary("0 0 0", "a 1 0 0", "b 0 1 0", "c 0 0 1", "d 1 1 1"), all, true, "d")
}

func TestExplainIsPlain(t *testing.T) {
	explained := map[int]int{}
	randomCases(1500, 6, 8, func(d api.Dictionary, _ []int, s []api.Seen) {
		var parts []string
		for _, fault := range faultsOf(d) {
			if plainIsPart(d, fault, s) {
				parts = append(parts, fault)
			}
		}
		all := choices(parts)
		at := slices.IndexFunc(all, func(faults []string) bool { return plainIsExplained(d, faults, s) })
		if at < 0 {
			wantExplained(t, "random", d, s, false)
			explained[-1]++
			return
		}
		wantExplained(t, "random", d, s, true, all[at]...)
		explained[len(all[at])]++
	})
	for many := -1; many <= 3; many++ {
		if explained[many] < 5 {
			t.Error("few explanations", many, explained)
		}
	}
}

func TestExplainSize(t *testing.T) {
	// Each of 14 faults is detected by a test of its own.
	d := api.Dictionary{Good: slices.Repeat([]string{"0"}, 15)}
	var s []api.Seen
	for i := range 15 {
		responses := slices.Clone(d.Good)
		responses[i] = "1"
		d.Rows = append(d.Rows, api.Row{Fault: "f" + string(rune('a'+i)), Responses: responses})
		s = append(s, seen(i, "1"))
	}
	s[14].Response = "0"
	wantExplained(t, "most", d, s, true, faultsOf(d)[:14]...)
	s[14].Response = "1"
	if l, is, e := Explain(d, s); e != api.ErrLarge || is || len(l) != 0 {
		t.Error(l, is, e)
	}
	// Faults that no test that was seen detects can be part as well.
	if l, is, e := Explain(d, nil); e != api.ErrLarge || is || len(l) != 0 {
		t.Error(l, is, e)
	}
	wantExplained(t, "one test that passed", d, []api.Seen{seen(3, "0")}, true)
	wantExplained(t, "14 faults, nothing seen", sized(1, 14), nil, true)
	if l, is, e := Explain(sized(2, 15), []api.Seen{seen(0, "1")}); e != api.ErrLarge || is || len(l) != 0 {
		t.Error("many before there being none", l, is, e)
	}
}
