package wafer

import (
	"strconv"
	"strings"

	"scanchain/api"
	"scanchain/numbers"
	"scanchain/words"
)

const (
	passWord = "pass"
	noBins   = "-"
)

// Text writes a line for the bins that pass, and for each row.
func Text(w api.Wafer) (string, api.Errno) {
	if e := CheckWafer(w); e != api.OK {
		return "", e
	}
	return words.Write(func(line func(...string)) {
		if w.Pass == "" {
			line(passWord, noBins)
		} else {
			line(passWord, w.Pass)
		}
		for _, row := range w.Rows {
			line(runsOf(row)...)
		}
	})
}

// runsOf returns the runs of equal bytes of a row.
func runsOf(row string) []string {
	var runs []string
	for row != "" {
		rest := strings.TrimLeft(row, row[:1])
		long := len(row) - len(rest)
		runs = append(runs, textOfRun(row[:1], long))
		row = rest
	}
	return runs
}

func textOfRun(die string, long int) string {
	if long == 1 {
		return "[" + die + "]"
	}
	return strconv.Itoa(long) + "[" + die + "]"
}

// Read reads a wafer.
func Read(text string) (api.Wafer, int, api.Errno) {
	readLine := readPass
	lines, number, e := words.ReadList(text, func(line string) (string, bool) {
		read := readLine
		readLine = readRow
		return read(line)
	}, checkLines)
	if e != api.OK {
		return api.Wafer{}, number, e
	}
	return waferOf(lines), 0, api.OK
}

// waferOf returns the wafer of lines that were read: what passes, and the rows.
func waferOf(lines []string) api.Wafer {
	return api.Wafer{Rows: lines[1:], Pass: lines[0]}
}

func checkLines(lines []string) api.Errno {
	if len(lines) == 0 {
		return api.ErrSyntax
	}
	w := waferOf(lines)
	for _, row := range w.Rows {
		if len(row) > api.MaxWafer {
			return api.ErrLarge
		}
	}
	return CheckWafer(w)
}

// readPass returns the bins that a line says pass, and true; false if it does not have this form.
func readPass(line string) (string, bool) {
	parts, good := words.Split(line)
	if !good || len(parts) != 2 || parts[0] != passWord {
		return "", false
	}
	if parts[1] == noBins {
		return "", true
	}
	return parts[1], true
}

// readRow returns the row of a line, and true; false if it is not a line of a row.
func readRow(line string) (string, bool) {
	parts, good := words.Split(line)
	if !good {
		return "", false
	}
	var row strings.Builder
	last := ""
	for _, part := range parts {
		die, long, is := readRun(part)
		if !is || die == last {
			return "", false
		}
		row.WriteString(strings.Repeat(die, long))
		last = die
	}
	return row.String(), true
}

// readRun returns the die of a run, how long it is, and true; false if it is no run.
func readRun(part string) (string, int, bool) {
	count, die, _ := strings.Cut(part, "[")
	if len(die) != 2 || die[1] != ']' || !isOneOf(mapped, die[0]) {
		return "", 0, false
	}
	if count == "" {
		return die[:1], 1, true
	}
	long, is := words.Number(count)
	return die[:1], long, is && numbers.AreWithin(2, api.MaxWafer, long)
}
