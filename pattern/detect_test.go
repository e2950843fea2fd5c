package pattern

import (
	"slices"
	"strings"
	"testing"

	"scanchain/api"
)

func TestStuck(t *testing.T) {
	wantList(t, "no vectors", 0, 1, 2)(Stuck(3, nil))
	wantList(t, "one vector", 0, 1)(Stuck(2, []string{"01"}))
	wantList[int](t, "none")(Stuck(2, []string{"01", "10"}))
	wantList(t, "low and high", 0, 3)(Stuck(4, []string{"0011", "0101", "0001"}))
	wantList(t, "last", 1)(Stuck(2, []string{"01", "11"}))
	randomVectors(1000, 6, 4, func(nets int, v []string) {
		var want []int
		for net := range nets {
			low := slices.ContainsFunc(v, func(vector string) bool { return vector[net] == '0' })
			high := slices.ContainsFunc(v, func(vector string) bool { return vector[net] == '1' })
			if !low || !high {
				want = append(want, net)
			}
		}
		wantList(t, "random", want...)(Stuck(nets, v))
	})
}

func wantGroups(t *testing.T, name string, want ...[]int) func(got [][]int, e api.Errno) {
	return func(got [][]int, e api.Errno) {
		t.Helper()
		if e != api.OK || !slices.EqualFunc(got, want, slices.Equal) {
			t.Errorf("%s: %v %v, not %v", name, got, e, want)
		}
	}
}

func haveEqual(v []string, a, b int) bool {
	return !slices.ContainsFunc(v, func(vector string) bool { return vector[a] != vector[b] })
}

func TestEqual(t *testing.T) {
	wantGroups(t, "one net")(Equal(1, nil))
	wantGroups(t, "no vectors", []int{0, 1, 2})(Equal(3, nil))
	wantGroups(t, "one vector", []int{0, 1}, []int{2, 3})(Equal(4, []string{"0011"}))
	wantGroups(t, "mixed", []int{0, 3}, []int{1, 2, 5})(Equal(6, []string{"100100", "011011", "000010"}))
	wantGroups(t, "none")(Equal(4, []string{"0011", "0101"}))
	wantGroups(t, "the high one first", []int{0, 2}, []int{1, 3})(Equal(4, []string{"1010"}))
	randomVectors(1000, 8, 4, func(nets int, v []string) {
		var want [][]int
		for first := range nets {
			var group []int
			for net := range nets {
				if haveEqual(v, first, net) {
					group = append(group, net)
				}
			}
			if len(group) > 1 && group[0] == first {
				want = append(want, group)
			}
		}
		wantGroups(t, "random", want...)(Equal(nets, v))
	})
}

// plainMasked looks at all triples.
func plainMasked(nets int, v []string) [][3]int {
	var triples [][3]int
	for a := range nets {
		for b := range nets {
			for c := range nets {
				masked := !slices.ContainsFunc(v, func(vector string) bool {
					return (vector[a] == '1' && vector[b] == '1') != (vector[c] == '1')
				})
				if masked && a < b && c != a && c != b {
					triples = append(triples, [3]int{a, b, c})
				}
			}
		}
	}
	return triples
}

func TestMasked(t *testing.T) {
	wantList[[3]int](t, "two nets")(Masked(2, nil))
	wantList(t, "no vectors", [3]int{0, 1, 2}, [3]int{0, 2, 1}, [3]int{1, 2, 0})(Masked(3, nil))
	wantList(t, "the first", [3]int{1, 2, 0})(Masked(4, []string{"0011", "0101", "0001"}))
	wantList(t, "the last", [3]int{0, 1, 2})(Masked(3, []string{"111", "100", "010"}))
	wantList(t, "AND, and not OR", [3]int{0, 1, 2})(Masked(4, []string{"0000", "0101", "1001", "1111"}))
	wantList(t, "two that look so", [3]int{0, 1, 2}, [3]int{0, 1, 3}, [3]int{0, 2, 3}, [3]int{0, 3, 2}, [3]int{1, 2, 3}, [3]int{1, 3, 2})(Masked(4, []string{"1111", "1000", "0100"}))
	found := 0
	randomVectors(1000, 7, 4, func(nets int, v []string) {
		want := plainMasked(nets, v)
		wantList(t, "random", want...)(Masked(nets, v))
		if len(want) > 0 {
			found++
		}
	})
	if found < 200 || found > 900 {
		t.Error("not many of each kind", found)
	}
}

// maskedGroups returns as many vectors as needed for groups of equal nets, and for some triples of which the last net is the AND of the others.
func maskedGroups(groups []int, triples int) (int, []string) {
	long := len(groups) + 3*triples
	var s []string
	for i, group := range groups {
		s = append(s, slices.Repeat([]string{binary(1<<i, long)}, group)...)
	}
	for i := range triples {
		low := len(groups) + 3*i
		for _, code := range []int{6, 5, 4} {
			s = append(s, binary(code<<low, long))
		}
	}
	v, _ := FromSequences(s)
	return len(s), v
}

func TestMaskedIsFull(t *testing.T) {
	// A group of g nets has g (g - 1) (g - 2) / 2 triples: 9,828 and 168 and 3.
	for triples, want := range []int{9_999, 10_000} {
		nets, v := maskedGroups([]int{28, 8, 3}, triples)
		masked, e := Masked(nets, v)
		if e != api.OK || len(masked) != want || !slices.Equal(masked, plainMasked(nets, v)) {
			t.Error(len(masked), e)
		}
	}
	nets, v := maskedGroups([]int{28, 8, 3}, 2)
	if masked, e := Masked(nets, v); e != api.ErrFull || len(masked) != 0 || len(plainMasked(nets, v)) != 10_001 {
		t.Error(len(masked), e)
	}
	if masked, e := Masked(api.MaxNets, nil); e != api.ErrFull || len(masked) != 0 {
		t.Error(len(masked), e)
	}
	if masked, e := Masked(api.MaxNets, zeros(api.MaxNets, api.MaxPatterns)); e != api.ErrFull || len(masked) != 0 {
		t.Error(len(masked), e)
	}
}

func TestDistance(t *testing.T) {
	for _, c := range []struct {
		name string
		s    []string
		want int
		is   bool
	}{
		{"one net without vectors", []string{""}, 0, false},
		{"one net", []string{"01"}, 0, false},
		{"no vectors", []string{"", ""}, 0, true},
		{"equal", []string{"01", "10", "01"}, 0, true},
		{"one", []string{"01", "11"}, 1, true},
		{"all", []string{"000", "111"}, 3, true},
		{"the last pair", []string{"000000", "111111", "111001"}, 2, true},
		{"the outer pair", []string{"000000", "111111", "011000"}, 2, true},
		{"most", []string{strings.Repeat("0", 200), strings.Repeat("1", 200)}, 200, true},
	} {
		v, e := FromSequences(c.s)
		if e != api.OK {
			t.Fatal(e)
		}
		if n, is, e := Distance(len(c.s), v); e != api.OK || n != c.want || is != c.is {
			t.Errorf("%s: %d %t %v", c.name, n, is, e)
		}
	}
	randomVectors(1000, 5, 8, func(nets int, v []string) {
		want := -1
		for a := range nets {
			for b := range a {
				differ := 0
				for _, vector := range v {
					if vector[a] != vector[b] {
						differ++
					}
				}
				if want < 0 || differ < want {
					want = differ
				}
			}
		}
		if n, is, e := Distance(nets, v); e != api.OK || is != (nets > 1) || n != max(want, 0) {
			t.Error(nets, v, n, is, e, want)
		}
	})
}
