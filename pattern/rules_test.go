package pattern

import (
	"slices"
	"strings"
	"sync"
	"testing"

	"scanchain/api"
)

// spareVectors are vectors with one that is not valid in the memory behind the list.
func spareVectors() []string {
	return []string{"0011", "0101", "0001", "?"}[:3]
}

func useAll(t *testing.T, v []string) {
	wantList(t, "sequences", "000", "010", "100", "111")(Sequences(4, v))
	wantList(t, "stuck", 0, 3)(Stuck(4, v))
	wantGroups(t, "equal")(Equal(4, v))
	wantList(t, "masked", [3]int{1, 2, 0})(Masked(4, v))
	wantList(t, "fewest", 0, 1)(Fewest(4, v))
	wantOrder(t, "order", v, []int{0, 2, 1}, 2)
	wantMeets(t, "meets", 4, api.GoalShorts, true)(v, api.OK)
	wantList(t, "clear", "001", "010", "100")(Generate(3, api.GoalClear))
	if n, is, e := Distance(4, v); e != api.OK || n != 1 || !is {
		t.Error(n, is, e)
	}
	wantSame(t, v)
}

func TestArgumentsStay(t *testing.T) {
	v, s := spareVectors(), []string{"01", "11", "?"}[:2]
	useAll(t, v)
	wantList(t, "from sequences", "01", "11")(FromSequences(s))
	if !slices.Equal(v[:4], []string{"0011", "0101", "0001", "?"}) || !slices.Equal(s[:3], []string{"01", "11", "?"}) {
		t.Error("changed", v[:4], s[:3])
	}
}

func TestResultsAreNew(t *testing.T) {
	v := spareVectors()
	sequences, _ := Sequences(4, v)
	clear(sequences)
	back, _ := FromSequences(v)
	clear(back)
	counting, _ := Counting(5)
	clear(counting)
	wantList(t, "counting", "00011", "01100", "10101")(Counting(5))
	groups, _ := Equal(4, v[:1])
	_, _ = append(groups[0], 7), append(groups[1], 7)
	clear(groups[0])
	wantGroups(t, "one and the other", []int{0, 0}, []int{2, 3})(groups, api.OK)
	read, _, _ := Read("01\n")
	clear(read)
	useAll(t, v)
}

func TestFunctionsRunAtOnce(t *testing.T) {
	v := spareVectors()
	var all sync.WaitGroup
	for range 8 {
		all.Go(func() {
			for range 20 {
				useAll(t, v)
			}
		})
	}
	all.Wait()
}

func TestLargeArgumentsReturn(t *testing.T) {
	const most = 200_000
	long := strings.Repeat("0", most)
	for _, v := range [][]string{zeros(1, most), {long}} {
		for _, nets := range []int{1, most} {
			if e := CheckVectors(nets, v); e == api.OK {
				t.Error(nets, len(v))
			}
		}
		if s, e := FromSequences(v); e != api.ErrLarge || len(s) != 0 {
			t.Error(len(v), e)
		}
		if text, e := Text(v); e != api.ErrLarge || text != "" {
			t.Error(len(v), e)
		}
	}
	for _, line := range []string{"\n", "0\n", "01\n", "x"} {
		if v, _, e := Read(strings.Repeat(line, api.MaxText/len(line))); e == api.OK || len(v) != 0 {
			t.Error(line, e)
		}
	}
	full := zeros(api.MaxNets, api.MaxPatterns)
	for name, e := range map[string]func() api.Errno{
		"sequences": func() api.Errno { _, e := Sequences(api.MaxNets, full); return e },
		"stuck":     func() api.Errno { _, e := Stuck(api.MaxNets, full); return e },
		"equal":     func() api.Errno { _, e := Equal(api.MaxNets, full); return e },
		"distance":  func() api.Errno { _, _, e := Distance(api.MaxNets, full); return e },
		"meets":     func() api.Errno { _, e := Meets(api.MaxNets, full, api.GoalClear); return e },
	} {
		if got := e(); got != api.OK {
			t.Error(name, got)
		}
	}
}
