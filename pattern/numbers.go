package pattern

import (
	"math/bits"
	"slices"
)

// ones returns the number that has only ones as its digits.
func ones(long int) int {
	return 1<<long - 1
}

// digits returns the last binary digits of a number, the one of the highest value first.
func digits(number, long int) string {
	code := make([]byte, long)
	for i := range slices.Backward(code) {
		code[i] = '0' + byte(number&1)
		number >>= 1
	}
	return string(code)
}

func countOnes(number int) int {
	return bits.OnesCount(uint(number))
}

func inverted(bit rune) rune {
	return '0' + '1' - bit
}
