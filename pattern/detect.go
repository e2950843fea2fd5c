package pattern

import (
	"iter"
	"strings"

	"scanchain/api"
)

const mostTriples = 10_000

// Stuck returns the nets that do not have both values.
func Stuck(nets int, v []string) ([]int, api.Errno) {
	s, e := Sequences(nets, v)
	if e != api.OK {
		return nil, e
	}
	var stuck []int
	for net, sequence := range s {
		if isStuck(sequence) {
			stuck = append(stuck, net)
		}
	}
	return stuck, api.OK
}

func isStuck(sequence string) bool {
	return !strings.Contains(sequence, "0") || !strings.Contains(sequence, "1")
}

// Equal returns the groups of nets with equal sequences.
func Equal(nets int, v []string) ([][]int, api.Errno) {
	s, e := Sequences(nets, v)
	if e != api.OK {
		return nil, e
	}
	return groupsOf(s), api.OK
}

func groupsOf(sequences []string) [][]int {
	nets := netsWith(sequences)
	var groups [][]int
	for net, sequence := range sequences {
		if group := nets[sequence]; len(group) > 1 && group[0] == net {
			groups = append(groups, group)
		}
	}
	return groups
}

// netsWith returns the nets with each sequence, in order.
func netsWith(sequences []string) map[string][]int {
	nets := map[string][]int{}
	for net, sequence := range sequences {
		nets[sequence] = append(nets[sequence], net)
	}
	return nets
}

// Masked returns the triples of which the third net looks like a short of the others.
func Masked(nets int, v []string) ([][3]int, api.Errno) {
	s, e := Sequences(nets, v)
	if e != api.OK {
		return nil, e
	}
	with := netsWith(s)
	var triples [][3]int
	for a, b := range pairs(nets) {
		for _, c := range with[and(s[a], s[b])] {
			if c == a || c == b {
				continue
			}
			if len(triples) == mostTriples {
				return nil, api.ErrFull
			}
			triples = append(triples, [3]int{a, b, c})
		}
	}
	return triples, api.OK
}

// Distance returns in how few vectors two nets differ.
func Distance(nets int, v []string) (int, bool, api.Errno) {
	s, e := Sequences(nets, v)
	if e != api.OK || nets == 1 {
		return 0, false, e
	}
	least := len(v)
	for a, b := range pairs(nets) {
		least = min(least, changes(s[a], s[b]))
	}
	return least, true, api.OK
}

// pairs goes through all pairs of different numbers below n, the smaller one first, in order.
func pairs(n int) iter.Seq2[int, int] {
	return func(yield func(int, int) bool) {
		for a := range n {
			for b := a + 1; b < n; b++ {
				if !yield(a, b) {
					return
				}
			}
		}
	}
}

// and returns the bitwise AND of two bit strings of the same length.
func and(x, y string) string {
	both := []byte(x)
	for i := range both {
		both[i] = min(x[i], y[i])
	}
	return string(both)
}

// changes returns in how many places two bit strings of the same length differ.
func changes(x, y string) int {
	n := 0
	for i := range len(x) {
		if x[i] != y[i] {
			n++
		}
	}
	return n
}
