package fault

import (
	"strings"
	"testing"

	"scanchain/api"
)

func TestResponse(t *testing.T) {
	for _, c := range []struct {
		name string
		f    api.Fault
		want []string
	}{
		{"stuck 0", fault(api.FaultStuck0, 2), []string{"0011", "0101", "0000", "1000"}},
		{"stuck 0 on the first", fault(api.FaultStuck0, 0), []string{"0000", "0101", "1111", "1000"}},
		{"stuck 1", fault(api.FaultStuck1, 3), []string{"0011", "0101", "1111", "1111"}},
		{"open", fault(api.FaultOpen, 1), []string{"0011", "1111", "1111", "1000"}},
		{"open on what is high", fault(api.FaultOpen, 2), []string{"0011", "0101", "1111", "1000"}},
		{"and", fault(api.FaultAnd, 0, 1), []string{"0001", "0001", "1111", "1000"}},
		{"or", fault(api.FaultOr, 0, 1), []string{"0111", "0111", "1111", "1000"}},
		{"and of three", fault(api.FaultAnd, 0, 1, 2), []string{"0001", "0001", "0001", "1000"}},
		{"and of all", fault(api.FaultAnd, 0, 1, 2, 3), []string{"0000", "0000", "0000", "0000"}},
		{"or of three", fault(api.FaultOr, 0, 1, 3), []string{"1111", "1111", "1111", "1111"}},
		{"first", fault(api.FaultFirst, 0, 3), []string{"0011", "0101", "1111", "0011"}},
		{"first is the last", fault(api.FaultFirst, 3, 0), []string{"1000", "0101", "1111", "1000"}},
		{"first of three", fault(api.FaultFirst, 1, 0, 3), []string{"0101", "0101", "1111", "0101"}},
	} {
		bits := []string{"0011", "0101", "1111", "1000"}
		wantList(t, c.name, c.want...)(Response(bits, c.f))
		wantList(t, c.name, c.want...)(Combined(bits, []api.Fault{c.f}))
	}
	wantList(t, "no vectors", "", "")(Response([]string{"", ""}, fault(api.FaultOpen, 0)))
	wantList(t, "one net", "111")(Response([]string{"010"}, fault(api.FaultStuck1, 0)))
}

func TestResponseSize(t *testing.T) {
	low, high := strings.Repeat("0", 64), strings.Repeat("1", 64)
	wantList(t, "low", low)(Response([]string{high}, fault(api.FaultStuck0, 0)))
	wantList(t, "high", high)(Response([]string{low}, fault(api.FaultStuck1, 0)))
	ends := "1" + low[:62] + "1"
	wantList(t, "ends", ends, ends)(Response([]string{ends, low}, fault(api.FaultOr, 0, 1)))
	wantList(t, "and", low, low)(Response([]string{ends, low}, fault(api.FaultAnd, 0, 1)))
	most := quiet(api.MaxNets, api.MaxTestLong)
	want := quiet(api.MaxNets, api.MaxTestLong)
	want[99] = high
	wantList(t, "most", want...)(Response(most, fault(api.FaultOpen, 99)))
}

func TestCombined(t *testing.T) {
	bits := []string{"01", "10", "11"}
	wantList(t, "none", bits...)(Combined(bits, nil))
	for _, c := range []struct {
		name string
		f    []api.Fault
		want []string
	}{
		{"stuck, then short", []api.Fault{fault(api.FaultStuck1, 0), fault(api.FaultAnd, 0, 1)}, []string{"10", "10", "11"}},
		{"short, then stuck", []api.Fault{fault(api.FaultAnd, 0, 1), fault(api.FaultStuck1, 0)}, []string{"11", "00", "11"}},
		{"stuck twice", []api.Fault{fault(api.FaultStuck0, 2), fault(api.FaultStuck1, 2)}, []string{"01", "10", "11"}},
		{"firsts in turn", []api.Fault{fault(api.FaultFirst, 0, 1), fault(api.FaultFirst, 2, 0), fault(api.FaultFirst, 1, 2)}, []string{"11", "01", "01"}},
		{"one twice", []api.Fault{fault(api.FaultOr, 0, 1), fault(api.FaultOr, 0, 1)}, []string{"11", "11", "11"}},
	} {
		wantList(t, c.name, c.want...)(Combined(bits, c.f))
	}
}

func TestResponsesArePlain(t *testing.T) {
	randomCases(2000, 8, 6, 5, func(bits []string, f []api.Fault) {
		wantList(t, "combined", plainResponse(bits, f...)...)(Combined(bits, f))
		for _, one := range f {
			response := plainResponse(bits, one)
			wantList(t, "response", response...)(Response(bits, one))
			want := plainDetects(bits, one)
			does, e := Detects(bits, one)
			if e != api.OK || does != (len(want) > 0) {
				t.Error(bits, one, does, e)
			}
			vector, is, e := First(bits, one)
			if e != api.OK || is != (len(want) > 0) || is && vector != want[0] || !is && vector != 0 {
				t.Error(bits, one, vector, is, e)
			}
		}
	})
	randomCases(20, 100, 64, 10, func(bits []string, f []api.Fault) {
		wantList(t, "large", plainResponse(bits, f...)...)(Combined(bits, f))
	})
}

func TestFirst(t *testing.T) {
	for _, c := range []struct {
		name   string
		bits   []string
		f      api.Fault
		vector int
		is     bool
	}{
		{"at once", []string{"01"}, fault(api.FaultOpen, 0), 0, true},
		{"later", []string{"1101"}, fault(api.FaultStuck1, 0), 2, true},
		{"not", []string{"11"}, fault(api.FaultOpen, 0), 0, false},
		{"no vectors", []string{""}, fault(api.FaultStuck0, 0), 0, false},
		{"the earlier net", []string{"001", "010", "000"}, fault(api.FaultAnd, 0, 1, 2), 1, true},
		{"equal nets", []string{"0110", "0110"}, fault(api.FaultOr, 0, 1), 0, false},
		{"last of the most", []string{strings.Repeat("0", 63) + "1"}, fault(api.FaultStuck0, 0), 63, true},
	} {
		vector, is, e := First(c.bits, c.f)
		does, also := Detects(c.bits, c.f)
		if vector != c.vector || is != c.is || e != api.OK || does != c.is || also != api.OK {
			t.Errorf("%s: %v %v %v %v %v", c.name, vector, is, e, does, also)
		}
	}
}
