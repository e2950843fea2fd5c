package tap

import (
	"strings"

	"scanchain/api"
)

// Identify reads the idcodes that a chain shifts out after a reset.
func Identify(bits string) ([]int, int, api.Errno) {
	if e := checkClocks(bits); e != api.OK {
		return nil, 0, e
	}
	var ids []int
	for at := 0; at < len(bits); {
		if bits[at] == '0' {
			ids = append(ids, 0)
			at += bypassLong
			continue
		}
		if len(bits)-at < idcodeLong {
			return nil, 0, api.ErrSyntax
		}
		code := bits[at : at+idcodeLong]
		if !strings.Contains(code, "0") {
			return identified(ids, at)
		}
		ids = append(ids, idcodeOf(code))
		at += idcodeLong
	}
	return nil, 0, api.ErrNone
}

func identified(ids []int, end int) ([]int, int, api.Errno) {
	if len(ids) > api.MaxDevices {
		return nil, 0, api.ErrLarge
	}
	return ids, end, api.OK
}

// idcodeOf returns the idcode with these bits, the one of value 1 first.
func idcodeOf(bits string) int {
	id := 0
	for i := range len(bits) {
		id |= int(bits[i]-'0') << i
	}
	return id
}
