package tap

import (
	"math"
	"slices"
	"strings"
	"testing"

	"scanchain/api"
)

func TestIdentify(t *testing.T) {
	end := strings.Repeat("1", 32)
	five := "101" + strings.Repeat("0", 29)
	large := strings.Repeat("1", 31) + "0"
	high := "1" + strings.Repeat("0", 30) + "1"
	for _, c := range []struct {
		bits string
		ids  []int
		long int
	}{
		{end, nil, 0},
		{"0" + end, []int{0}, 1},
		{"0" + five + end, []int{0, 5}, 33},
		{five + "0" + large + high + end, []int{5, 0, 1<<31 - 1, 1<<31 + 1}, 97},
		{five + end + "0101", []int{5}, 32},
		{end + end, nil, 0},
		{strings.Repeat("0", 20) + end, make([]int, 20), 20},
	} {
		if ids, long, e := Identify(c.bits); e != api.OK || long != c.long || !slices.Equal(ids, c.ids) {
			t.Error(c.bits, ids, long, e)
		}
	}
	for _, c := range []struct {
		bits string
		want api.Errno
	}{
		{"", api.ErrNone},
		{"0", api.ErrNone},
		{five, api.ErrNone},
		{strings.Repeat("0", 21), api.ErrNone},
		{strings.Repeat("0", api.MaxClocks), api.ErrNone},
		{strings.Repeat("x", api.MaxClocks+1), api.ErrLarge},
		{strings.Repeat("0", api.MaxClocks+1), api.ErrLarge},
		{"x", api.ErrSyntax},
		{end + "x", api.ErrSyntax},
		{"1", api.ErrSyntax},
		{end[1:], api.ErrSyntax},
		{five + five[:31], api.ErrSyntax},
		{strings.Repeat("0", 21) + "1", api.ErrSyntax},
		{strings.Repeat("0", 21) + end, api.ErrLarge},
	} {
		if ids, long, e := Identify(c.bits); e != c.want || long != 0 || len(ids) != 0 {
			t.Error(len(c.bits), ids, long, e, c.want)
		}
	}
}

func TestIdentifyReadsAChain(t *testing.T) {
	d := manyDevices(api.MaxDevices)
	want := make([]int, len(d))
	bits := 0
	for i := range d {
		bits++
		if i%3 != 0 {
			d[i].Id = math.MaxUint32 - 2 - i*2_000_002
			bits += 31
		}
		want[len(d)-1-i] = d[i].Id
	}
	c := newChain(t, d)
	out, e := c.ShiftDR(strings.Repeat("1", bits+32))
	if e != api.OK {
		t.Fatal(e)
	}
	if ids, long, e := Identify(out); e != api.OK || long != bits || !slices.Equal(ids, want) {
		t.Error(ids, long, e)
	}
}
