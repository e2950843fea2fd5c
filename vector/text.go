package vector

import (
	"strconv"

	"scanchain/api"
	"scanchain/words"
)

// noBits is the word for the bits of a head or tail that has none.
const noBits = "-"

// Text writes a line for each command.
func Text(l []api.Command) (string, api.Errno) {
	if e := CheckCommands(l); e != api.OK {
		return "", e
	}
	return words.Write(func(line func(...string)) {
		for _, c := range l {
			line(wordsOf(c)...)
		}
	})
}

func wordsOf(c api.Command) []string {
	known := kinds[c.Kind]
	switch {
	case known.has == hasState:
		return []string{known.word, stateWords[c.State]}
	case known.has == hasClocks:
		return []string{known.word, strconv.Itoa(c.Clocks)}
	case c.Bits == "":
		return []string{known.word, noBits}
	case c.Want == "":
		return []string{known.word, c.Bits}
	}
	return []string{known.word, c.Bits, c.Want, c.Mask}
}

// Read reads commands.
func Read(text string) ([]api.Command, int, api.Errno) {
	return words.ReadList(text, readCommand, CheckCommands)
}

// readCommand returns the command of a line, and true; false if it is not a line of a command.
func readCommand(line string) (api.Command, bool) {
	parts, good := words.Split(line)
	if !good {
		return api.Command{}, false
	}
	kind := kindOf(parts[0])
	c := api.Command{Kind: kind}
	has, long := kinds[kind].has, len(parts)
	switch {
	case has == hasState && long == 2:
		c.State, good = stateOf(parts[1])
	case has == hasClocks && long == 2:
		c.Clocks, good = words.Number(parts[1])
	case has == hasBits && long == 2:
		c.Bits = bitsOf(parts[1])
	case has == hasScan && long == 2:
		c.Bits = parts[1]
	case has == hasScan && long == 4:
		c.Bits, c.Want, c.Mask = parts[1], parts[2], parts[3]
	default:
		good = false
	}
	return c, good
}

// kindOf returns the kind with a word; 0, which has nothing, if there is none.
func kindOf(word string) int {
	for kind, known := range kinds {
		if known.word == word {
			return kind
		}
	}
	return 0
}

// stateOf returns the state with a word, and true; false if there is none.
func stateOf(word string) (int, bool) {
	for state, known := range stateWords {
		if known == word {
			return state, true
		}
	}
	return 0, false
}

func bitsOf(word string) string {
	if word == noBits {
		return ""
	}
	return word
}
