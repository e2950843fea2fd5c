package fault

import "math/bits"

// width is how many vectors a set can have: MaxTestLong.
const width = 64

// set is some vectors of a test. Vector 0 is the highest bit: of two sets with as many vectors, the greater number comes first, compared index by index.
type set uint64

func only(vector int) set {
	return 1 << (width - 1 - vector)
}

// before returns all vectors before one.
func before(vector int) set {
	return ^set(0) << (width - vector)
}

// setOf returns the vectors in which a bit string has a 1.
func setOf(text string) set {
	var s set
	for vector, bit := range text {
		if bit == '1' {
			s |= only(vector)
		}
	}
	return s
}

// text returns the bit string of a length that has a 1 in each vector of a set.
func (s set) text(long int) string {
	text := make([]byte, long)
	for vector := range text {
		text[vector] = '0'
		if s&only(vector) != 0 {
			text[vector] = '1'
		}
	}
	return string(text)
}

// first returns the first vector of a set that is not empty.
func (s set) first() int {
	return bits.LeadingZeros64(uint64(s))
}

func (s set) count() int {
	return bits.OnesCount64(uint64(s))
}

func (s set) list() []int {
	var vectors []int
	for s != 0 {
		vector := s.first()
		vectors = append(vectors, vector)
		s &^= only(vector)
	}
	return vectors
}
