package pattern

import (
	"math"
	"slices"
	"strconv"
	"strings"
	"testing"

	"scanchain/api"
)

var goals = []int{api.GoalShorts, api.GoalStuck, api.GoalClear}

// binary returns a number with binary digits, as strconv writes them.
func binary(number, long int) string {
	if long == 0 {
		return ""
	}
	s := strconv.FormatInt(int64(number), 2)
	return strings.Repeat("0", long-len(s)) + s
}

// power returns 2^k.
func power(k int) int {
	n := 1
	for range k {
		n *= 2
	}
	return n
}

func wantSequences(t *testing.T, name string, nets int, want []string) func(v []string, e api.Errno) {
	return func(v []string, e api.Errno) {
		t.Helper()
		if e != api.OK || len(v) != len(want[0]) {
			t.Fatal(name, nets, v, e)
		}
		wantList(t, name+" of "+strconv.Itoa(nets), want...)(Sequences(nets, v))
	}
}

func wantMeets(t *testing.T, name string, nets, goal int, want bool) func(v []string, e api.Errno) {
	return func(v []string, e api.Errno) {
		t.Helper()
		if e != api.OK {
			t.Fatal(name, nets, e)
		}
		if is, e := Meets(nets, v, goal); e != api.OK || is != want {
			t.Errorf("%s of %d: %q meets %d: %t %v", name, nets, v, goal, is, e)
		}
	}
}

func TestCounting(t *testing.T) {
	wantList(t, "one", "0", "1")(Counting(1))
	wantList(t, "two", "01", "10")(Counting(2))
	wantList(t, "three", "000", "011", "101")(Counting(3))
	for nets := 1; nets <= api.MaxNets; nets++ {
		long := 0
		for power(long)-2 < nets {
			long++
		}
		var want []string
		for net := range nets {
			want = append(want, binary(net+1, long))
		}
		wantSequences(t, "counting", nets, want)(Counting(nets))
		wantMeets(t, "counting", nets, api.GoalStuck, true)(Counting(nets))
	}
}

func TestComplemented(t *testing.T) {
	wantList(t, "one", "0", "1")(Complemented(1))
	wantList(t, "two", "01", "10")(Complemented(2))
	wantList(t, "three", "001", "010", "110", "101")(Complemented(3))
	for nets := 1; nets <= api.MaxNets; nets++ {
		long := 1
		for power(long) < nets {
			long++
		}
		var want []string
		for net := range nets {
			want = append(want, binary(net, long)+binary(power(long)-1-net, long))
		}
		wantSequences(t, "complemented", nets, want)(Complemented(nets))
		wantMeets(t, "complemented", nets, api.GoalStuck, true)(Complemented(nets))
		wantMeets(t, "complemented", nets, api.GoalClear, true)(Complemented(nets))
	}
}

func TestWalking(t *testing.T) {
	wantList(t, "one zero", "0")(Walking(1, 0))
	wantList(t, "one one", "1")(Walking(1, 1))
	wantList(t, "zeros", "011", "101", "110")(Walking(3, 0))
	wantList(t, "ones", "100", "010", "001")(Walking(3, 1))
	for nets := 1; nets <= api.MaxNets; nets++ {
		for bit := range 2 {
			v, e := Walking(nets, bit)
			if e != api.OK || len(v) != nets {
				t.Fatal(nets, bit, v, e)
			}
			for i, vector := range v {
				for net := range nets {
					if has := int(vector[net] - '0'); (has == bit) != (net == i) || has > 1 {
						t.Fatal(nets, bit, v)
					}
				}
			}
		}
	}
}

func TestGeneratorsErrors(t *testing.T) {
	for _, nets := range []int{0, -1, 101, math.MinInt, math.MaxInt} {
		for goal := range 5 {
			if n, e := Minimum(nets, goal); e != api.ErrArg || n != 0 {
				t.Error(nets, n, e)
			}
			if v, e := Generate(nets, goal); e != api.ErrArg || len(v) != 0 {
				t.Error(nets, v, e)
			}
			if v, e := Walking(nets, goal-1); e != api.ErrArg || len(v) != 0 {
				t.Error(nets, v, e)
			}
		}
		if v, e := Counting(nets); e != api.ErrArg || len(v) != 0 {
			t.Error(nets, v, e)
		}
		if v, e := Complemented(nets); e != api.ErrArg || len(v) != 0 {
			t.Error(nets, v, e)
		}
	}
	for _, n := range []int{-1, 2, '0', '1', math.MinInt, math.MaxInt} {
		if v, e := Walking(1, n); e != api.ErrArg || len(v) != 0 {
			t.Error(n, v, e)
		}
	}
	for _, goal := range []int{0, -1, 4, math.MinInt, math.MaxInt} {
		if n, e := Minimum(1, goal); e != api.ErrKind || n != 0 {
			t.Error(goal, n, e)
		}
		if v, e := Generate(1, goal); e != api.ErrKind || len(v) != 0 {
			t.Error(goal, v, e)
		}
		if is, e := Meets(2, []string{"01"}, goal); e != api.ErrKind || is {
			t.Error(goal, is, e)
		}
	}
}

// mostNets returns with how many vectors how many nets can meet a goal, one after the other.
func mostNets(goal int) []int {
	switch goal {
	case api.GoalShorts:
		return []int{1, 2, 4, 8, 16, 32, 64, 100}
	case api.GoalStuck:
		return []int{0, 0, 2, 6, 14, 30, 62, 100}
	}
	return []int{1, 1, 2, 3, 6, 10, 20, 35, 70, 100}
}

func TestMinimum(t *testing.T) {
	for _, goal := range goals {
		most := mostNets(goal)
		for nets := 1; nets <= api.MaxNets; nets++ {
			want := slices.IndexFunc(most, func(enough int) bool { return enough >= nets })
			if n, e := Minimum(nets, goal); e != api.OK || n != want {
				t.Errorf("%d nets, goal %d: %d %v, not %d", nets, goal, n, e, want)
			}
		}
	}
}

// areApart says what P3.3 says of two nets.
func areApart(a, b string, goal int) bool {
	if goal != api.GoalClear {
		return a != b
	}
	inA, inB := true, true
	for i := range len(a) {
		inA = inA && (b[i] == '0' || a[i] == '1')
		inB = inB && (a[i] == '0' || b[i] == '1')
	}
	return !inA && !inB
}

func plainMeets(sequences []string, goal int) bool {
	for a, s := range sequences {
		if goal == api.GoalStuck && (strings.Count(s, "0") == 0 || strings.Count(s, "1") == 0) {
			return false
		}
		for _, other := range sequences[:a] {
			if !areApart(s, other, goal) {
				return false
			}
		}
	}
	return true
}

// mostTogether tries all sets of sequences, and returns the size of the largest one that meets a goal.
func mostTogether(long, goal int) int {
	var try func(from int, chosen []string) int
	try = func(from int, chosen []string) int {
		most := len(chosen)
		for number := from; number < power(long); number++ {
			if next := append(slices.Clone(chosen), binary(number, long)); plainMeets(next, goal) {
				most = max(most, try(number+1, next))
			}
		}
		return most
	}
	return try(0, nil)
}

func TestNoFewerThanMinimum(t *testing.T) {
	for _, goal := range goals {
		for long, want := range mostNets(goal)[:5] {
			if long == 4 && goal != api.GoalClear {
				continue
			}
			if most := mostTogether(long, goal); most != want {
				t.Errorf("goal %d: %d vectors are enough for %d nets, not %d", goal, long, most, want)
			}
		}
	}
}

func TestGenerate(t *testing.T) {
	wantList[string](t, "one, shorts")(Generate(1, api.GoalShorts))
	wantList(t, "one, stuck", "0", "1")(Generate(1, api.GoalStuck))
	wantList[string](t, "one, clear")(Generate(1, api.GoalClear))
	wantList(t, "three, shorts", "001", "010")(Generate(3, api.GoalShorts))
	wantList(t, "three, stuck", "000", "011", "101")(Generate(3, api.GoalStuck))
	wantList(t, "three, clear", "001", "010", "100")(Generate(3, api.GoalClear))
	wantSequences(t, "clear", 5, []string{"0011", "0101", "0110", "1001", "1010"})(Generate(5, api.GoalClear))
	wantSequences(t, "clear", 8, []string{"00011", "00101", "00110", "01001", "01010", "01100", "10001", "10010"})(Generate(8, api.GoalClear))
	for _, goal := range goals {
		for nets := 1; nets <= api.MaxNets; nets++ {
			long, e := Minimum(nets, goal)
			if e != api.OK {
				t.Fatal(e)
			}
			var want []string
			for number := range power(long) {
				code := binary(number, long)
				if goal == api.GoalShorts || goal == api.GoalStuck && number > 0 || goal == api.GoalClear && strings.Count(code, "1") == long/2 {
					want = append(want, code)
				}
			}
			wantSequences(t, "generate", nets, want[:nets])(Generate(nets, goal))
			wantMeets(t, "generate", nets, goal, true)(Generate(nets, goal))
		}
	}
}

func TestMeets(t *testing.T) {
	for _, c := range []struct {
		name string
		s    []string
		want [3]bool // by goals
	}{
		{"one net without vectors", []string{""}, [3]bool{true, false, true}},
		{"one net that is low", []string{"00"}, [3]bool{true, false, true}},
		{"one net that is high", []string{"1"}, [3]bool{true, false, true}},
		{"one net with both", []string{"10"}, [3]bool{true, true, true}},
		{"two nets without vectors", []string{"", ""}, [3]bool{false, false, false}},
		{"equal", []string{"01", "01"}, [3]bool{false, false, false}},
		{"apart", []string{"01", "10"}, [3]bool{true, true, true}},
		{"one is low", []string{"00", "10"}, [3]bool{true, false, false}},
		{"one is high", []string{"10", "11"}, [3]bool{true, false, false}},
		{"the first in the second", []string{"001", "011"}, [3]bool{true, true, false}},
		{"the second in the first", []string{"011", "001"}, [3]bool{true, true, false}},
		{"the last in the first", []string{"0110", "1001", "0100"}, [3]bool{true, true, false}},
		{"the last are equal", []string{"0110", "1001", "1001"}, [3]bool{false, false, false}},
		{"three apart", []string{"0110", "1001", "0101"}, [3]bool{true, true, true}},
	} {
		for i, goal := range goals {
			wantMeets(t, c.name, len(c.s), goal, c.want[i])(FromSequences(c.s))
		}
	}
	met := [3]int{}
	randomVectors(3000, 4, 6, func(nets int, v []string) {
		s, _ := Sequences(nets, v)
		for i, goal := range goals {
			want := plainMeets(s, goal)
			wantMeets(t, "random", nets, goal, want)(v, api.OK)
			if want {
				met[i]++
			}
		}
	})
	if min(met[0], met[1], met[2]) < 500 || max(met[0], met[1], met[2]) > 2500 {
		t.Error("not many of each kind", met)
	}
}
