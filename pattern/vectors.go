// Package pattern makes test vectors for nets, and tells what they detect.
package pattern

import (
	"scanchain/api"
	"scanchain/words"
)

// CheckVectors says what is wrong with vectors.
func CheckVectors(nets int, v []string) api.Errno {
	if e := checkNets(nets); e != api.OK {
		return e
	}
	if len(v) > api.MaxPatterns {
		return api.ErrLarge
	}
	return checkBits(v, nets)
}

func checkNets(nets int) api.Errno {
	if nets < 1 || nets > api.MaxNets {
		return api.ErrArg
	}
	return api.OK
}

// checkBits says which of some strings are not bit strings of a length.
func checkBits(list []string, long int) api.Errno {
	for _, bits := range list {
		switch {
		case len(bits) != long:
			return api.ErrForm
		case !words.IsBits(bits):
			return api.ErrSyntax
		}
	}
	return api.OK
}

// Sequences returns the sequences of all nets.
func Sequences(nets int, v []string) ([]string, api.Errno) {
	if e := CheckVectors(nets, v); e != api.OK {
		return nil, e
	}
	return turned(v, nets), api.OK
}

// FromSequences returns the vectors with some sequences.
func FromSequences(s []string) ([]string, api.Errno) {
	switch {
	case len(s) == 0:
		return nil, api.ErrNone
	case len(s) > api.MaxNets, len(s[0]) > api.MaxPatterns:
		return nil, api.ErrLarge
	}
	long := len(s[0])
	if e := checkBits(s, long); e != api.OK {
		return nil, e
	}
	return turned(s, long), api.OK
}

// turned makes columns of rows that have a length.
func turned(rows []string, long int) []string {
	columns := make([]string, long)
	for c := range columns {
		column := make([]byte, len(rows))
		for r, row := range rows {
			column[r] = row[c]
		}
		columns[c] = string(column)
	}
	return columns
}

// vectorsOf returns the vectors with the sequences of a length that a function returns for each net.
func vectorsOf(nets, long int, sequence func(net int) string) []string {
	var sequences []string
	for net := range nets {
		sequences = append(sequences, sequence(net))
	}
	return turned(sequences, long)
}
