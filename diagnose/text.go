package diagnose

import (
	"slices"

	"scanchain/api"
	"scanchain/words"
)

const goodWord = "good"

// Text writes a line for the good responses, and for each fault.
func Text(d api.Dictionary) (string, api.Errno) {
	if e := CheckDictionary(d); e != api.OK {
		return "", e
	}
	return words.Write(func(line func(...string)) {
		line(slices.Concat([]string{goodWord}, d.Good)...)
		for _, row := range d.Rows {
			line(slices.Concat([]string{row.Fault}, row.Responses)...)
		}
	})
}

// Read reads a dictionary.
func Read(text string) (api.Dictionary, int, api.Errno) {
	if len(text) > api.MaxText {
		return api.Dictionary{}, 0, api.ErrLarge
	}
	var d api.Dictionary
	isBegun := false
	number, isRead := words.Lines(text, func(line string) bool {
		parts, good := words.Split(line)
		if !good {
			return false
		}
		if isBegun {
			d.Rows = append(d.Rows, api.Row{Fault: parts[0], Responses: parts[1:]})
			return true
		}
		d.Good = parts[1:]
		isBegun = true
		return parts[0] == goodWord
	})
	if !isRead || !isBegun {
		return api.Dictionary{}, number, api.ErrSyntax
	}
	if e := CheckDictionary(d); e != api.OK {
		return api.Dictionary{}, 0, e
	}
	return d, 0, api.OK
}
