package fault

import (
	"slices"
	"strings"
	"sync"
	"testing"

	"scanchain/api"
)

// spareTest is a test with a string that is not valid in the memory behind the list.
func spareTest() []string {
	return []string{"010", "101", "111", "?"}[:3]
}

// spareFaults are faults with ones and nets that are not valid in the memory behind the lists.
func spareFaults() []api.Fault {
	return []api.Fault{
		{Kind: api.FaultOpen, Nets: []int{0, -1}[:1]},
		{Kind: api.FaultAnd, Nets: []int{0, 1, -1}[:2]},
		{Kind: api.FaultFirst, Nets: []int{1, 0, -1}[:2]},
		{Kind: -1},
	}[:3]
}

func useAll(t *testing.T, bits []string, f []api.Fault) {
	t.Helper()
	wantList(t, "response", "111", "101", "111")(Response(bits, f[0]))
	wantList(t, "combined", "101", "101", "111")(Combined(bits, f))
	wantList[int](t, "undetected")(Undetected(bits, f))
	wantFraction(t, "coverage", 1, 1)(Coverage(bits, f))
	wantGroups(t, "groups", []int{0}, []int{1}, []int{2})(Groups(bits, f))
	wantFraction(t, "resolution", 1, 1)(Resolution(bits, f))
	wantList(t, "curve", 3, 3, 3)(Curve(bits, f))
	wantList[int](t, "needed")(Needed(bits, f))
	wantList(t, "reduced", "0", "1", "1")(Reduced(bits, f))
	wantList(t, "smallest", 0)(Smallest(bits, f))
	wantFaults(t, "all", fault(api.FaultAnd, 0, 1), fault(api.FaultFirst, 0, 1), fault(api.FaultFirst, 1, 0))(All(2, []int{api.FaultAnd, api.FaultFirst, -1}[:2]))
	wantSame(t, 3, f)
	vector, is, e := First(bits, f[1])
	if e != api.OK || vector != 0 || !is {
		t.Error(vector, is, e)
	}
}

func TestArgumentsStay(t *testing.T) {
	bits, f := spareTest(), spareFaults()
	useAll(t, bits, f)
	spared := bits[:4][3] == "?" && f[:4][3].Kind == -1 && f[0].Nets[:2][1] == -1 && f[1].Nets[:3][2] == -1
	if !slices.Equal(bits, spareTest()) || !sameFaults(f, spareFaults()) || !spared {
		t.Error("changed", bits, f)
	}
}

func TestResultsAreNew(t *testing.T) {
	bits, f := spareTest(), spareFaults()
	response, _ := Response(bits, f[0])
	clear(response)
	combined, _ := Combined(bits, nil)
	clear(combined)
	reduced, _ := Reduced(bits, f)
	clear(reduced)
	groups, _ := Groups(bits, append(f, f[0], f[1]))
	_, _ = append(groups[0], 7), append(groups[1], 7)
	clear(groups[0])
	wantGroups(t, "one and the others", []int{0, 0}, []int{1, 4}, []int{2})(groups, api.OK)
	all, _ := All(3, everyKind)
	read, _, _ := Read(3, "and 0 1\nand 0 2\n")
	for _, list := range [][]api.Fault{all, read} {
		for i := range list {
			_ = append(list[i].Nets, 7)
			list[i].Nets[0]++
		}
	}
	wantFaults(t, "read", fault(api.FaultAnd, 1, 1), fault(api.FaultAnd, 1, 2))(read, api.OK)
	if all[0].Nets[0] != 1 || all[1].Nets[0] != 2 || all[3].Nets[0] != 1 {
		t.Error("shared memory", all)
	}
	wantFaults(t, "all", fault(api.FaultStuck0, 0), fault(api.FaultStuck0, 1))(All(2, everyKind[:1]))
	useAll(t, spareTest(), spareFaults())
}

func TestFunctionsRunAtOnce(t *testing.T) {
	bits, f := spareTest(), spareFaults()
	var all sync.WaitGroup
	for range 8 {
		all.Go(func() {
			for range 20 {
				useAll(t, bits, f)
			}
		})
	}
	all.Wait()
}

func TestLargeArgumentsReturn(t *testing.T) {
	const most = 200_000
	wantErrors(t, "nets", quiet(most, 1), nil, api.ErrLarge)
	wantErrors(t, "vectors", quiet(1, most), nil, api.ErrLarge)
	wantErrors(t, "faults", quiet(2, 2), make([]api.Fault, most), api.ErrLarge)
	wantErrors(t, "nets of a fault", quiet(2, 2), []api.Fault{fault(api.FaultAnd, make([]int, most)...)}, api.ErrLarge)
	if f, e := All(100, make([]int, most)); e != api.ErrLarge || len(f) != 0 {
		t.Error(len(f), e)
	}
	if text, e := Text(make([]api.Fault, most)); e != api.ErrLarge || text != "" {
		t.Error(len(text), e)
	}
	for _, line := range []string{"\n", "x", "or 0\n", "or 1 0\n", "or 0 1\n", "or ", "0 "} {
		if f, _, e := Read(100, strings.Repeat(line, api.MaxText/len(line))); e == api.OK || len(f) != 0 {
			t.Error(line, e)
		}
	}
}

func TestMostFaultsAndVectors(t *testing.T) {
	most, e := All(api.MaxNets, everyKind[1:])
	if e != api.OK {
		t.Fatal(e)
	}
	bits := quiet(api.MaxNets, api.MaxTestLong)
	for net := range 64 {
		bits[net] = bits[net][:net] + "1" + bits[net][net+1:]
	}
	for function, call := range errorOfEach(bits, most) {
		want := api.OK
		if function == "Smallest" {
			want = api.ErrLarge
		}
		if e, _ := call(); e != want {
			t.Error(function, e)
		}
	}
}
