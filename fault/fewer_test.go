package fault

import (
	"math/rand/v2"
	"slices"
	"strings"
	"testing"

	"scanchain/api"
	"scanchain/pattern"
)

// withVectors returns a test with some of its vectors.
func withVectors(bits []string, vectors []int) []string {
	var some []string
	for _, of := range bits {
		text := ""
		for _, i := range vectors {
			text += of[i : i+1]
		}
		some = append(some, text)
	}
	return some
}

func TestNeeded(t *testing.T) {
	stuck0, stuck1 := fault(api.FaultStuck0, 0), fault(api.FaultStuck1, 0)
	for _, c := range []struct {
		name string
		bits []string
		f    []api.Fault
		want []int
	}{
		{"no faults", []string{"01"}, nil, nil},
		{"no vectors", []string{""}, []api.Fault{stuck0}, nil},
		{"both", []string{"01"}, []api.Fault{stuck0, stuck1}, []int{0, 1}},
		{"one", []string{"01"}, []api.Fault{stuck0}, []int{1}},
		{"either", []string{"00"}, []api.Fault{stuck1}, nil},
		{"the one of three", []string{"010"}, []api.Fault{stuck0, stuck1}, []int{1}},
		{"twice", []string{"0100"}, []api.Fault{stuck0, stuck0}, []int{1}},
		{"not detected", []string{"00"}, []api.Fault{stuck0}, nil},
		{"rising", []string{"1101", "1011"}, []api.Fault{fault(api.FaultOpen, 0), fault(api.FaultOpen, 1)}, []int{1, 2}},
	} {
		wantList(t, c.name, c.want...)(Needed(c.bits, c.f))
	}
}

func TestReduced(t *testing.T) {
	open, _ := All(3, []int{api.FaultOpen})
	stuck, _ := All(2, []int{api.FaultStuck0, api.FaultStuck1})
	for _, c := range []struct {
		name       string
		bits, want []string
		f          []api.Fault
	}{
		{"none needed", []string{"010", "101"}, []string{"", ""}, nil},
		{"the last one", []string{"010", "101", "111"}, []string{"01", "10", "11"}, open},
		{"equal ones", []string{"0000"}, []string{"0"}, []api.Fault{fault(api.FaultOpen, 0)}},
		{"from the end, not the fewest", []string{"010", "100"}, []string{"01", "10"}, stuck[2:]},
		{"later ones go first", []string{"0110", "0011"}, []string{"01", "01"}, stuck},
		{"no vectors", []string{"", ""}, []string{"", ""}, stuck},
		{"not detected", []string{"111", "111"}, []string{"", ""}, stuck[2:]},
	} {
		wantList(t, c.name, c.want...)(Reduced(c.bits, c.f))
	}
}

func TestSmallest(t *testing.T) {
	open, _ := All(3, []int{api.FaultOpen})
	stuck, _ := All(2, []int{api.FaultStuck0, api.FaultStuck1})
	for _, c := range []struct {
		name string
		bits []string
		f    []api.Fault
		want []int
	}{
		{"no faults", []string{"010", "101"}, nil, nil},
		{"no vectors", []string{"", ""}, stuck, nil},
		{"not detected", []string{"11"}, open[:1], nil},
		{"the first of equal ones", []string{"000"}, open[:1], []int{0}},
		{"two", []string{"010", "101", "111"}, open, []int{0, 1}},
		{"one later", []string{"010", "100"}, stuck[2:], []int{2}},
		{"opposite ones", []string{"0110", "0011"}, stuck, []int{0, 2}},
		{"the least of several", []string{"1010", "1010"}, stuck, []int{0, 1}},
		{"the first with a later one", []string{"0001", "0001"}, stuck, []int{0, 3}},
	} {
		wantList(t, c.name, c.want...)(Smallest(c.bits, c.f))
	}
}

// plainSmallest tries all lists of indices, the shorter ones first, those of a length in lexicographic order.
func plainSmallest(bits []string, f []api.Fault) []int {
	long := len(bits[0])
	want := plainDetected(bits, f, rangeTo(long))
	var search func(chosen []int, more int) []int
	search = func(chosen []int, more int) []int {
		if more == 0 {
			if slices.Equal(plainDetected(bits, f, chosen), want) {
				return append([]int{}, chosen...)
			}
			return nil
		}
		from := 0
		if len(chosen) > 0 {
			from = chosen[len(chosen)-1] + 1
		}
		for i := from; i < long; i++ {
			if found := search(append(chosen, i), more-1); found != nil {
				return found
			}
		}
		return nil
	}
	for size := range long {
		if found := search(nil, size); found != nil {
			return found
		}
	}
	return rangeTo(long)
}

func TestFewerArePlain(t *testing.T) {
	randomCases(1500, 6, 7, 9, func(bits []string, f []api.Fault) {
		all := rangeTo(len(bits[0]))
		detected := plainDetected(bits, f, all)
		var needed []int
		for _, vector := range all {
			if !slices.Equal(plainDetected(bits, f, without(all, vector)), detected) {
				needed = append(needed, vector)
			}
		}
		wantList(t, "needed", needed...)(Needed(bits, f))
		kept := all
		for _, vector := range slices.Backward(all) {
			if less := without(kept, vector); slices.Equal(plainDetected(bits, f, less), detected) {
				kept = less
			}
		}
		wantList(t, "reduced", withVectors(bits, kept)...)(Reduced(bits, f))
		wantList(t, "smallest", plainSmallest(bits, f)...)(Smallest(bits, f))
	})
}

func TestReducedHasTheCoverage(t *testing.T) {
	randomCases(300, 20, 64, 60, func(bits []string, f []api.Fault) {
		before, e := Undetected(bits, f)
		if e != api.OK {
			t.Fatal(e)
		}
		reduced, e := Reduced(bits, f)
		if e != api.OK {
			t.Fatal(e)
		}
		wantList(t, "reduced", before...)(Undetected(reduced, f))
		wantList(t, "again", reduced...)(Reduced(reduced, f))
		wantList(t, "all that remain are needed", rangeTo(len(reduced[0]))...)(Needed(reduced, f))
	})
}

func TestMoreVectorsDetectNoFewer(t *testing.T) {
	randomCases(300, 10, 30, 40, func(bits []string, f []api.Fault) {
		curve, e := Curve(bits, f)
		if e != api.OK || !slices.IsSorted(curve) {
			t.Error(curve, e)
		}
	})
}

func TestSmallestSize(t *testing.T) {
	f := []api.Fault{fault(api.FaultOpen, 0), fault(api.FaultStuck0, 0)}
	wantList(t, "the last ones of the most", 0, 13)(Smallest([]string{strings.Repeat("0", 13) + "1"}, f))
	long := quiet(2, 15)
	if s, e := Smallest(long, f); e != api.ErrLarge || len(s) != 0 {
		t.Error(s, e)
	}
	if s, e := Smallest(long, nil); e != api.ErrLarge || len(s) != 0 {
		t.Error("no faults", s, e)
	}
	if s, e := Smallest(long, []api.Fault{f[0], {}}); e != api.ErrKind || len(s) != 0 {
		t.Error("the errors of the faults come first", s, e)
	}
	if n, e := Needed(quiet(2, 64), f); e != api.OK || len(n) != 0 {
		t.Error(n, e)
	}
}

func TestSmallestWithMostFaults(t *testing.T) {
	walking, e := pattern.Walking(14, 0)
	if e != api.OK {
		t.Fatal(e)
	}
	open, _ := All(14, []int{api.FaultOpen})
	wantList(t, "all are needed", rangeTo(14)...)(Smallest(walking, open))
	r := rand.New(rand.NewPCG(9, 9))
	for range 3 {
		bits := randomTest(r, api.MaxNets, api.MaxExact)
		var f []api.Fault
		for range api.MaxFaults {
			f = append(f, randomFault(r, api.MaxNets))
		}
		smallest, e := Smallest(bits, f)
		undetected, _ := Undetected(bits, f)
		wantList(t, "smallest", undetected...)(Undetected(withVectors(bits, smallest), f))
		if e != api.OK || len(smallest) == 0 || len(smallest) == api.MaxExact {
			t.Error(smallest, e)
		}
	}
}
