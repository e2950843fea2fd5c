// Package wafer has maps of dies: how good they are and where they fail, and plans of touchdowns.
package wafer

import (
	"strings"

	"scanchain/api"
)

const (
	bins = "0123456789abcdefghijklmnopqrstuvwxyz"
	// mapped is all that a place of a map can have.
	mapped = bins + string(api.DieNone) + string(api.DieUntested) + string(api.DieInked)
)

// CheckWafer says what is wrong with a wafer.
func CheckWafer(w api.Wafer) api.Errno {
	if e := checkRows(w.Rows); e != api.OK {
		return e
	}
	return checkPass(w.Pass)
}

func checkRows(rows []string) api.Errno {
	if len(rows) == 0 {
		return api.ErrNone
	}
	if len(rows) > api.MaxWafer {
		return api.ErrLarge
	}
	for _, row := range rows {
		switch {
		case row == "":
			return api.ErrNone
		case len(row) > api.MaxWafer:
			return api.ErrLarge
		case len(row) != len(rows[0]):
			return api.ErrForm
		case strings.Trim(row, mapped) != "":
			return api.ErrSyntax
		}
	}
	return api.OK
}

func checkPass(pass string) api.Errno {
	for i := range len(pass) {
		switch {
		case !isOneOf(bins, pass[i]):
			return api.ErrSyntax
		case i > 0 && pass[i] <= pass[i-1]:
			return api.ErrOrder
		}
	}
	return api.OK
}

func isOneOf(all string, b byte) bool {
	return strings.IndexByte(all, b) >= 0
}
