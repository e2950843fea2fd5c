package pattern

import (
	"math/rand/v2"
	"slices"
	"strings"
	"testing"

	"scanchain/api"
)

// picked returns the vectors with some indices.
func picked(v []string, indices []int) []string {
	var some []string
	for _, i := range indices {
		some = append(some, v[i])
	}
	return some
}

// detected says of each net whether it has both values, and of each pair whether its sequences are different.
func detected(nets int, v []string) string {
	said := ""
	for a := range nets {
		s := ""
		for _, vector := range v {
			s += vector[a : a+1]
		}
		said += map[bool]string{true: "+", false: "-"}[strings.Contains(s, "0") && strings.Contains(s, "1")]
		for b := range a {
			said += map[bool]string{true: "=", false: "/"}[haveEqual(v, a, b)]
		}
	}
	return said
}

// plainFewest tries all lists of indices, the shorter ones first, those of a length in lexicographic order.
func plainFewest(nets int, v []string) []int {
	want := detected(nets, v)
	var try func(chosen []int, from, more int) []int
	try = func(chosen []int, from, more int) []int {
		if more == 0 {
			if detected(nets, picked(v, chosen)) == want {
				return append([]int{}, chosen...)
			}
			return nil
		}
		for i := from; i < len(v); i++ {
			if found := try(append(chosen, i), i+1, more-1); found != nil {
				return found
			}
		}
		return nil
	}
	for long := range len(v) {
		if found := try(nil, 0, long); found != nil {
			return found
		}
	}
	return try(nil, 0, len(v))
}

func TestFewest(t *testing.T) {
	for _, c := range []struct {
		name string
		v    []string
		want []int
	}{
		{"one that says nothing", []string{"0"}, nil},
		{"equal nets that are stuck", []string{"00", "00"}, nil},
		{"one that tells apart, and has another value", []string{"00", "01", "00"}, []int{0, 1}},
		{"the first of equal ones", []string{"01", "01", "01"}, []int{0}},
		{"both values", []string{"1", "1", "0", "0"}, []int{0, 2}},
		{"both values of equal nets", []string{"00", "11"}, []int{0, 1}},
		{"a later one alone", []string{"001", "010", "100", "011"}, []int{0, 1, 2}},
		{"opposite ones", []string{"01", "10"}, []int{0, 1}},
		{"low net", []string{"0011", "0101", "0001"}, []int{0, 1}},
	} {
		wantList(t, c.name, c.want...)(Fewest(len(c.v[0]), c.v))
	}
	wantList[int](t, "no vectors")(Fewest(3, nil))
}

func TestFewestIsPlain(t *testing.T) {
	randomVectors(1000, 4, 7, func(nets int, v []string) {
		wantList(t, "random", plainFewest(nets, v)...)(Fewest(nets, v))
	})
	randomVectors(100, 9, 8, func(nets int, v []string) {
		wantList(t, "random", plainFewest(nets, v)...)(Fewest(nets, v))
	})
}

func TestFewestSize(t *testing.T) {
	walking, e := Walking(14, 1)
	if e != api.OK {
		t.Fatal(e)
	}
	// 13 vectors tell all 14 nets apart, but each net has a one in its own vector alone.
	wantList(t, "all", 0, 1, 2, 3, 4, 5, 6, 7, 8, 9, 10, 11, 12, 13)(Fewest(14, walking))
	wantList(t, "last ones", 12, 13)(Fewest(2, append(zeros(2, 12), "01", "10")))
	if l, e := Fewest(14, append(walking, walking[0])); e != api.ErrLarge || len(l) != 0 {
		t.Error(l, e)
	}
	r := rand.New(rand.NewPCG(5, 6))
	var v []string
	for range api.MaxChosen {
		v = append(v, randomBits(r, api.MaxNets))
	}
	l, e := Fewest(api.MaxNets, v)
	if e != api.OK || detected(api.MaxNets, picked(v, l)) != detected(api.MaxNets, v) {
		t.Error(l, e)
	}
	for i := range l {
		if less := slices.Delete(slices.Clone(l), i, i+1); detected(api.MaxNets, picked(v, less)) == detected(api.MaxNets, v) {
			t.Error("not the fewest", l, less)
		}
	}
}

func changesIn(v []string) int {
	n := 0
	for i := 1; i < len(v); i++ {
		for net := range v[i] {
			if v[i][net] != v[i-1][net] {
				n++
			}
		}
	}
	return n
}

// plainOrder tries all orders in lexicographic order.
func plainOrder(v []string) ([]int, int) {
	var best []int
	least := -1
	var try func(order []int)
	try = func(order []int) {
		if len(order) == len(v) {
			if n := changesIn(picked(v, order)); least < 0 || n < least {
				best, least = slices.Clone(order), n
			}
			return
		}
		for i := range v {
			if !slices.Contains(order, i) {
				try(append(order, i))
			}
		}
	}
	try(nil)
	return best, least
}

func wantOrder(t *testing.T, name string, v []string, want []int, changes int) {
	t.Helper()
	nets := 1
	if len(v) > 0 {
		nets = len(v[0])
	}
	order, n, e := Order(nets, v)
	if e != api.OK || n != changes || !slices.Equal(order, want) {
		t.Errorf("%s: %v %d %v, not %v %d", name, order, n, e, want, changes)
	}
}

func TestOrder(t *testing.T) {
	wantOrder(t, "none", nil, nil, 0)
	wantOrder(t, "one", []string{"01"}, []int{0}, 0)
	wantOrder(t, "two", []string{"01", "10"}, []int{0, 1}, 2)
	wantOrder(t, "equal", []string{"01", "01", "01"}, []int{0, 1, 2}, 0)
	wantOrder(t, "the one between", []string{"0011", "0101", "0001"}, []int{0, 2, 1}, 2)
	wantOrder(t, "not from the first one", []string{"011", "000", "111"}, []int{1, 0, 2}, 3)
	wantOrder(t, "not the nearest first", []string{"00000", "10000", "01111", "00111"}, []int{1, 0, 3, 2}, 5)
	wantOrder(t, "as they are", []string{"000", "001", "011", "010", "110", "111", "101", "100"}, []int{0, 1, 2, 3, 4, 5, 6, 7}, 7)
	randomVectors(300, 6, 6, func(_ int, v []string) {
		want, changes := plainOrder(v)
		wantOrder(t, "random", v, want, max(changes, 0))
	})
	wide := rand.New(rand.NewPCG(7, 8))
	for range 3 {
		var v []string
		for range 8 {
			v = append(v, randomBits(wide, 100))
		}
		want, changes := plainOrder(v)
		wantOrder(t, "wide", v, want, changes)
	}
}

func TestOrderSize(t *testing.T) {
	// Rising numbers of ones, shuffled: the only orders without detours are the way up and the way down.
	var v []string
	for _, count := range []int{7, 2, 9, 4, 0, 5, 8, 1, 6, 3} {
		v = append(v, strings.Repeat("1", count)+strings.Repeat("0", 9-count))
	}
	wantOrder(t, "ten, down", v, []int{2, 6, 0, 8, 5, 3, 9, 1, 7, 4}, 9)
	v[2], v[4] = v[4], v[2]
	wantOrder(t, "ten, up", v, []int{2, 7, 1, 9, 3, 5, 8, 0, 6, 4}, 9)
	wantOrder(t, "ten equal ones", zeros(3, 10), []int{0, 1, 2, 3, 4, 5, 6, 7, 8, 9}, 0)
	walking, _ := Walking(10, 1)
	wantOrder(t, "ten that differ as much", walking, []int{0, 1, 2, 3, 4, 5, 6, 7, 8, 9}, 18)
	if order, n, e := Order(9, append(v, v[0])); e != api.ErrLarge || n != 0 || len(order) != 0 {
		t.Error(order, n, e)
	}
}
