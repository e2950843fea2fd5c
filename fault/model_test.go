package fault

import (
	"math/rand/v2"
	"slices"
	"strings"
	"testing"

	"scanchain/api"
)

// plainVector returns what the receivers see of one vector, with a fault.
func plainVector(vector string, f api.Fault) string {
	on := ""
	for _, net := range f.Nets {
		on += vector[net : net+1]
	}
	value := map[int]string{
		api.FaultStuck0: "0",
		api.FaultStuck1: "1",
		api.FaultAnd:    map[bool]string{true: "0", false: "1"}[strings.Contains(on, "0")],
		api.FaultOr:     map[bool]string{true: "1", false: "0"}[strings.Contains(on, "1")],
		api.FaultFirst:  on[:1],
		api.FaultOpen:   "1",
	}[f.Kind]
	seen := ""
	for net := range len(vector) {
		if slices.Contains(f.Nets, net) {
			seen += value
		} else {
			seen += vector[net : net+1]
		}
	}
	return seen
}

// vectorsOf returns a string for each vector, with a byte for each net.
func vectorsOf(bits []string) []string {
	var vectors []string
	for i := range bits[0] {
		vector := ""
		for _, of := range bits {
			vector += of[i : i+1]
		}
		vectors = append(vectors, vector)
	}
	return vectors
}

func plainResponse(bits []string, faults ...api.Fault) []string {
	response := make([]string, len(bits))
	for _, vector := range vectorsOf(bits) {
		for _, f := range faults {
			vector = plainVector(vector, f)
		}
		for net := range bits {
			response[net] += vector[net : net+1]
		}
	}
	return response
}

// plainDetects returns the vectors that detect a fault.
func plainDetects(bits []string, f api.Fault) []int {
	var detecting []int
	for i, vector := range vectorsOf(bits) {
		if plainVector(vector, f) != vector {
			detecting = append(detecting, i)
		}
	}
	return detecting
}

// plainDetected returns the faults that some of the vectors detect.
func plainDetected(bits []string, f []api.Fault, vectors []int) []int {
	var detected []int
	for i, one := range f {
		if slices.ContainsFunc(plainDetects(bits, one), func(vector int) bool { return slices.Contains(vectors, vector) }) {
			detected = append(detected, i)
		}
	}
	return detected
}

func rangeTo(n int) []int {
	var l []int
	for i := range n {
		l = append(l, i)
	}
	return l
}

func without(l []int, what int) []int {
	return slices.DeleteFunc(slices.Clone(l), func(i int) bool { return i == what })
}

func randomBits(r *rand.Rand, long int) string {
	s := ""
	for range long {
		s += string(rune('0' + r.IntN(2)))
	}
	return s
}

func randomTest(r *rand.Rand, nets, vectors int) []string {
	var bits []string
	for range nets {
		if len(bits) > 0 && r.IntN(5) == 0 {
			bits = append(bits, bits[0])
			continue
		}
		bits = append(bits, randomBits(r, vectors))
	}
	return bits
}

func randomFault(r *rand.Rand, nets int) api.Fault {
	kinds := []int{api.FaultStuck0, api.FaultStuck1, api.FaultOpen}
	if nets > 1 {
		kinds = append(kinds, api.FaultAnd, api.FaultOr, api.FaultFirst)
	}
	f := api.Fault{Kind: kinds[r.IntN(len(kinds))], Nets: r.Perm(nets)}
	switch f.Kind {
	case api.FaultStuck0, api.FaultStuck1, api.FaultOpen:
		f.Nets = f.Nets[:1]
		return f
	}
	f.Nets = f.Nets[:2+r.IntN(min(nets, api.MaxShorted)-1)]
	if f.Kind == api.FaultFirst {
		slices.Sort(f.Nets[1:])
	} else {
		slices.Sort(f.Nets)
	}
	return f
}

// randomCases calls do with tests that are small enough to have faults that are not detected or not told apart.
func randomCases(count, mostNets, mostVectors, mostFaults int, do func(bits []string, f []api.Fault)) {
	r := rand.New(rand.NewPCG(1, 2))
	for range count {
		nets := 1 + r.IntN(mostNets)
		bits := randomTest(r, nets, r.IntN(mostVectors+1))
		var f []api.Fault
		for range r.IntN(mostFaults + 1) {
			f = append(f, randomFault(r, nets))
		}
		do(bits, f)
	}
}

// wantList reports a list or an error that is not the one that is wanted.
func wantList[T comparable](t *testing.T, name string, want ...T) func(got []T, e api.Errno) {
	return func(got []T, e api.Errno) {
		t.Helper()
		if e != api.OK || !slices.Equal(got, want) {
			t.Errorf("%s: %v %v, not %v", name, got, e, want)
		}
	}
}
