package station

import (
	"strconv"

	"scanchain/api"
	"scanchain/words"
)

// kindWords has the word for each kind of entries.
var kindWords = [...]string{
	api.EntryEnter:  "enter",
	api.EntryStart:  "start",
	api.EntryPass:   "pass",
	api.EntryFail:   "fail",
	api.EntryRepair: "repair",
	api.EntryScrap:  "scrap",
	api.EntryUndo:   "undo",
}

// Text writes a line for each entry.
func Text(l []api.Entry) (string, api.Errno) {
	if e := CheckEntries(l); e != api.OK {
		return "", e
	}
	return words.Write(func(line func(...string)) {
		for _, x := range l {
			line(wordsOf(x)...)
		}
	})
}

func wordsOf(x api.Entry) []string {
	parts := []string{x.Site, strconv.Itoa(x.No), strconv.Itoa(x.At), kindWords[x.Kind]}
	switch x.Kind {
	case api.EntryUndo:
		return append(parts, x.Of, strconv.Itoa(x.Other))
	case api.EntryStart:
		return append(parts, x.Board, x.Step)
	}
	return append(parts, x.Board)
}

// Read reads entries.
func Read(text string) ([]api.Entry, int, api.Errno) {
	return words.ReadList(text, readEntry, CheckEntries)
}

// readEntry returns the entry of a line, and true; false if it is not a line of an entry.
func readEntry(line string) (api.Entry, bool) {
	parts, good := words.Split(line)
	if !good || len(parts) < 5 {
		return api.Entry{}, false
	}
	numbers, are := words.Numbers(parts[1:3])
	if !are {
		return api.Entry{}, false
	}
	x := api.Entry{Site: parts[0], No: numbers[0], At: numbers[1], Kind: kindOf(parts[3])}
	switch long := len(parts); {
	case x.Kind == api.EntryUndo && long == 6:
		x.Of = parts[4]
		x.Other, good = words.Number(parts[5])
	case x.Kind == api.EntryStart && long == 6:
		x.Board, x.Step = parts[4], parts[5]
	case x.Kind != 0 && x.Kind != api.EntryUndo && x.Kind != api.EntryStart && long == 5:
		x.Board = parts[4]
	default:
		good = false
	}
	return x, good
}

// kindOf returns the kind with a word; 0 if there is none.
func kindOf(word string) int {
	for kind, known := range kindWords {
		if known == word {
			return kind
		}
	}
	return 0
}
