package pattern

import (
	"math/bits"
	"slices"
	"strings"

	"scanchain/api"
)

// Counting returns vectors whose sequences are numbers.
func Counting(nets int) ([]string, api.Errno) {
	return Generate(nets, api.GoalStuck)
}

// Complemented returns vectors whose sequences are numbers, and the same inverted.
func Complemented(nets int) ([]string, api.Errno) {
	if e := checkNets(nets); e != api.OK {
		return nil, e
	}
	long := max(bits.Len(uint(nets-1)), 1)
	return vectorsOf(nets, 2*long, func(net int) string {
		code := digits(net, long)
		return code + strings.Map(inverted, code)
	}), api.OK
}

// Walking returns vectors in which one net has a value, and all others have the other one.
func Walking(nets, bit int) ([]string, api.Errno) {
	if e := checkNets(nets); e != api.OK {
		return nil, e
	}
	if bit != 0 && bit != 1 {
		return nil, api.ErrArg
	}
	value := '0' + rune(bit)
	other := string(inverted(value))
	return vectorsOf(nets, nets, func(net int) string {
		return strings.Repeat(other, net) + string(value) + strings.Repeat(other, nets-1-net)
	}), api.OK
}

// Minimum returns the least number of vectors that can meet a goal.
func Minimum(nets, goal int) (int, api.Errno) {
	long, _, e := shortest(nets, goal)
	return long, e
}

// Generate returns as few vectors as can be that meet a goal.
func Generate(nets, goal int) ([]string, api.Errno) {
	long, codes, e := shortest(nets, goal)
	if e != api.OK {
		return nil, e
	}
	return vectorsOf(nets, long, func(net int) string { return digits(codes[net], long) }), api.OK
}

// shortest returns the least number of digits with which there are enough codes for all nets, and these codes.
func shortest(nets, goal int) (int, []int, api.Errno) {
	if e := checkNets(nets); e != api.OK {
		return 0, nil, e
	}
	serves, e := serving(goal)
	if e != api.OK {
		return 0, nil, e
	}
	for long := 0; ; long++ {
		if codes := codesOf(long, serves); len(codes) >= nets {
			return long, codes, api.OK
		}
	}
}

// serving returns a function that reports whether a number with so many digits is a code for a goal: all codes with the same number of digits meet it together.
func serving(goal int) (func(number, long int) bool, api.Errno) {
	switch goal {
	case api.GoalShorts:
		return func(number, long int) bool { return true }, api.OK
	case api.GoalStuck:
		return func(number, long int) bool { return number != 0 && number != ones(long) }, api.OK
	case api.GoalClear:
		// Sperner: no more sets of which none contains another one than those with half of the elements.
		return func(number, long int) bool { return countOnes(number) == long/2 }, api.OK
	}
	return nil, api.ErrKind
}

// codesOf returns all codes with so many digits, rising.
func codesOf(long int, serves func(number, long int) bool) []int {
	var codes []int
	for number := range ones(long) + 1 {
		if serves(number, long) {
			codes = append(codes, number)
		}
	}
	return codes
}

// Meets reports whether vectors meet a goal.
func Meets(nets int, v []string, goal int) (bool, api.Errno) {
	s, e := Sequences(nets, v)
	if e != api.OK {
		return false, e
	}
	switch goal {
	case api.GoalShorts:
		return areDifferent(s), api.OK
	case api.GoalStuck:
		return areDifferent(s) && !slices.ContainsFunc(s, isStuck), api.OK
	case api.GoalClear:
		return areClear(s), api.OK
	}
	return false, api.ErrKind
}

func areDifferent(sequences []string) bool {
	return len(groupsOf(sequences)) == 0
}

func areClear(sequences []string) bool {
	for a, b := range pairs(len(sequences)) {
		both := and(sequences[a], sequences[b])
		if both == sequences[a] || both == sequences[b] {
			return false
		}
	}
	return true
}
