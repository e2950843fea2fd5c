package pattern

import (
	"scanchain/api"
	"scanchain/words"
)

// Text writes a line for each vector.
func Text(v []string) (string, api.Errno) {
	if e := checkLines(v); e != api.OK {
		return "", e
	}
	return words.Write(func(line func(...string)) {
		for _, vector := range v {
			line(vector)
		}
	})
}

// checkLines says what is wrong with vectors, where the first one says how many nets there are.
func checkLines(v []string) api.Errno {
	if len(v) > api.MaxPatterns {
		return api.ErrLarge
	}
	for _, vector := range v {
		switch {
		case vector == "":
			return api.ErrNone
		case len(vector) > api.MaxNets:
			return api.ErrLarge
		}
		if e := checkBits([]string{vector}, len(v[0])); e != api.OK {
			return e
		}
	}
	return api.OK
}

// Read reads vectors.
func Read(text string) ([]string, int, api.Errno) {
	read := func(line string) (string, bool) { return line, line != "" && words.IsBits(line) }
	return words.ReadList(text, read, checkLines)
}
