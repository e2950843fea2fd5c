package sets

import (
	"math/rand/v2"
	"slices"
	"strings"
	"testing"
)

func TestSetsAreBitStrings(t *testing.T) {
	for _, c := range []struct {
		text string
		list []int
	}{
		{"", nil},
		{"0", nil},
		{"000", nil},
		{"1", []int{0}},
		{"010", []int{1}},
		{"1101", []int{0, 1, 3}},
		{strings.Repeat("0", 63) + "1", []int{63}},
		{"1" + strings.Repeat("0", 63), []int{0}},
	} {
		s := Of(c.text)
		if got := s.List(); !slices.Equal(got, c.list) {
			t.Errorf("%s: %v, not %v", c.text, got, c.list)
		}
		if got := s.Text(len(c.text)); got != c.text {
			t.Errorf("%s, not %s", got, c.text)
		}
		if s.Count() != len(c.list) {
			t.Error(c.text, s.Count())
		}
		if s != 0 && s.First() != c.list[0] {
			t.Error(c.text, s.First())
		}
	}
	if all := strings.Repeat("1", 64); Of(all) != ^Set(0) || (^Set(0)).Text(64) != all {
		t.Error(Of(all))
	}
}

func TestOnlyAndBefore(t *testing.T) {
	var before Set
	for thing := range 64 {
		if Before(thing) != before {
			t.Error(thing, Before(thing).List())
		}
		if got := Only(thing).List(); !slices.Equal(got, []int{thing}) {
			t.Error(thing, got)
		}
		before |= Only(thing)
	}
	if Before(64) != before || before != ^Set(0) {
		t.Error(Before(64).List())
	}
}

func setsOf(lists ...string) []Set {
	var all []Set
	for _, list := range lists {
		all = append(all, Of(list))
	}
	return all
}

func TestMeeting(t *testing.T) {
	needs := setsOf("110", "000", "011", "110")
	meets := Meeting(needs)
	for text, want := range map[string]bool{"000": false, "100": false, "010": true, "001": false, "101": true, "111": true} {
		if meets(Of(text)) != want {
			t.Error(text, !want)
		}
	}
	if !slices.Equal(needs, setsOf("110", "000", "011", "110")) {
		t.Error("changed", needs)
	}
	if !Meeting(nil)(0) || !Meeting([]Set{0})(0) {
		t.Error("there is nothing to meet")
	}
}

func TestFewest(t *testing.T) {
	for _, c := range []struct {
		name   string
		before int
		needs  []Set
		want   []int
	}{
		{"no things", 0, nil, nil},
		{"no needs", 3, nil, nil},
		{"an empty need", 3, setsOf("000"), nil},
		{"the first of several", 3, setsOf("111"), []int{0}},
		{"one for both", 3, setsOf("110", "011"), []int{1}},
		{"all", 3, setsOf("100", "010", "001"), []int{0, 1, 2}},
		{"the least of several lists", 4, setsOf("1100", "0011", "1010"), []int{0, 2}},
		{"fewer before the least", 4, setsOf("1001", "0101", "0011"), []int{3}},
	} {
		if got := Fewest(c.before, c.needs); !slices.Equal(got, c.want) {
			t.Errorf("%s: %v, not %v", c.name, got, c.want)
		}
	}
}

// plainFewest tries all lists, the shorter ones first, those of a length in lexicographic order.
func plainFewest(before int, needs []Set) []int {
	var search func(chosen []int, from, more int) []int
	search = func(chosen []int, from, more int) []int {
		if more == 0 {
			for _, need := range needs {
				if need != 0 && !slices.ContainsFunc(need.List(), func(thing int) bool { return slices.Contains(chosen, thing) }) {
					return nil
				}
			}
			return append([]int{}, chosen...)
		}
		for thing := from; thing < before; thing++ {
			if found := search(append(chosen, thing), thing+1, more-1); found != nil {
				return found
			}
		}
		return nil
	}
	for long := range before {
		if found := search(nil, 0, long); found != nil {
			return found
		}
	}
	return search(nil, 0, before)
}

func TestFewestIsPlain(t *testing.T) {
	r := rand.New(rand.NewPCG(3, 4))
	for range 1000 {
		before := r.IntN(9)
		var needs []Set
		for range r.IntN(10) {
			needs = append(needs, Set(r.Uint64())&Set(r.Uint64())&Before(before))
		}
		if got, want := Fewest(before, needs), plainFewest(before, needs); !slices.Equal(got, want) {
			t.Errorf("%d %v: %v, not %v", before, needs, got, want)
		}
	}
}
