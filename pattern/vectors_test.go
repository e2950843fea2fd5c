package pattern

import (
	"math"
	"math/rand/v2"
	"slices"
	"strings"
	"testing"

	"scanchain/api"
)

// wantList reports a list or an error that is not the one that is wanted.
func wantList[T comparable](t *testing.T, name string, want ...T) func(got []T, e api.Errno) {
	return func(got []T, e api.Errno) {
		t.Helper()
		if e != api.OK || !slices.Equal(got, want) {
			t.Errorf("%s: %v %v, not %v", name, got, e, want)
		}
	}
}

func randomBits(r *rand.Rand, long int) string {
	s := ""
	for range long {
		s += string(rune('0' + r.IntN(2)))
	}
	return s
}

// randomVectors calls do with small tests, in which what is asked for is often there and often not.
func randomVectors(count, mostNets, mostVectors int, do func(nets int, v []string)) {
	r := rand.New(rand.NewPCG(3, 4))
	for range count {
		nets := 1 + r.IntN(mostNets)
		var v []string
		for range r.IntN(mostVectors + 1) {
			v = append(v, randomBits(r, nets))
		}
		if len(v) > 1 && r.IntN(3) == 0 {
			v[len(v)-1] = v[0]
		}
		do(nets, v)
	}
}

func zeros(nets, vectors int) []string {
	return slices.Repeat([]string{strings.Repeat("0", nets)}, vectors)
}

// badVectors are vectors that are not valid, with CheckVectors's errors.
var badVectors = []struct {
	name string
	nets int
	v    []string
	want api.Errno
}{
	{"no net", 0, nil, api.ErrArg},
	{"no net, with a vector of it", 0, []string{""}, api.ErrArg},
	{"less than none", -1, nil, api.ErrArg},
	{"least int", math.MinInt, nil, api.ErrArg},
	{"many nets", 101, nil, api.ErrArg},
	{"many nets, with a vector of them", 101, zeros(101, 1), api.ErrArg},
	{"greatest int", math.MaxInt, nil, api.ErrArg},
	{"nets before vectors", 101, zeros(1, 201), api.ErrArg},
	{"many vectors", 2, zeros(2, 201), api.ErrLarge},
	{"their number before their form", 2, zeros(3, 201), api.ErrLarge},
	{"short", 2, []string{"01", "0"}, api.ErrForm},
	{"long", 2, []string{"01", "011"}, api.ErrForm},
	{"empty", 1, []string{""}, api.ErrForm},
	{"as many letters, and more bytes", 2, []string{"0ä"}, api.ErrForm},
	{"digit", 2, []string{"01", "02"}, api.ErrSyntax},
	{"before the digits", 2, []string{"/0"}, api.ErrSyntax},
	{"as many bytes", 2, []string{"ä"}, api.ErrSyntax},
	{"blank", 2, []string{"0 "}, api.ErrSyntax},
	{"line feed", 2, []string{"1\n"}, api.ErrSyntax},
	{"form before syntax", 2, []string{"012"}, api.ErrForm},
	{"syntax of the first before form of the second", 2, []string{"0x", "0"}, api.ErrSyntax},
	{"form of the first before syntax of the second", 2, []string{"0", "0x"}, api.ErrForm},
}

func TestCheckVectors(t *testing.T) {
	for _, c := range badVectors {
		if e := CheckVectors(c.nets, c.v); e != c.want {
			t.Errorf("%s: %v, not %v", c.name, e, c.want)
		}
	}
	for _, nets := range []int{1, 2, 100} {
		for _, vectors := range []int{0, 1, 2, 200} {
			if e := CheckVectors(nets, zeros(nets, vectors)); e != api.OK {
				t.Error(nets, vectors, e)
			}
		}
	}
	if e := CheckVectors(3, []string{"010", "101"}); e != api.OK {
		t.Error(e)
	}
}

func TestFunctionsCheckVectors(t *testing.T) {
	for _, c := range badVectors {
		check := func(function string, e api.Errno, isZero bool) {
			if e != c.want || !isZero {
				t.Errorf("%s: %s: %v, not %v", function, c.name, e, c.want)
			}
		}
		s, e := Sequences(c.nets, c.v)
		check("Sequences", e, len(s) == 0)
		// The goal that there is not comes after what is wrong with the vectors.
		for goal := range 5 {
			is, e := Meets(c.nets, c.v, goal)
			check("Meets", e, !is)
		}
		nets, e := Stuck(c.nets, c.v)
		check("Stuck", e, len(nets) == 0)
		groups, e := Equal(c.nets, c.v)
		check("Equal", e, len(groups) == 0)
		triples, e := Masked(c.nets, c.v)
		check("Masked", e, len(triples) == 0)
		least, is, e := Distance(c.nets, c.v)
		check("Distance", e, least == 0 && !is)
		chosen, e := Fewest(c.nets, c.v)
		check("Fewest", e, len(chosen) == 0)
		order, n, e := Order(c.nets, c.v)
		check("Order", e, len(order) == 0 && n == 0)
	}
}

func TestSequences(t *testing.T) {
	wantList(t, "three vectors", "000", "010", "100", "111")(Sequences(4, []string{"0011", "0101", "0001"}))
	wantList(t, "one net", "01")(Sequences(1, []string{"0", "1"}))
	wantList(t, "one vector", "0", "1")(Sequences(2, []string{"01"}))
	wantList(t, "no vectors", "", "", "")(Sequences(3, nil))
	wantList(t, "most", zeros(200, 100)...)(Sequences(100, zeros(100, 200)))
}

func TestFromSequences(t *testing.T) {
	wantList(t, "four sequences", "0011", "0101", "0001")(FromSequences([]string{"000", "010", "100", "111"}))
	wantList(t, "one sequence", "0", "1")(FromSequences([]string{"01"}))
	wantList(t, "one bit", "01")(FromSequences([]string{"0", "1"}))
	wantList[string](t, "no bits")(FromSequences([]string{"", "", ""}))
	wantList(t, "most", zeros(100, 200)...)(FromSequences(zeros(200, 100)))
	randomVectors(500, 8, 8, func(nets int, v []string) {
		s, e := Sequences(nets, v)
		if e != api.OK || len(s) != nets {
			t.Fatal(s, e)
		}
		for net, sequence := range s {
			for i, vector := range v {
				if len(sequence) != len(v) || sequence[i] != vector[net] {
					t.Fatal(v, s)
				}
			}
		}
		wantList(t, "back", v...)(FromSequences(s))
	})
}

func TestFromSequencesErrors(t *testing.T) {
	for _, c := range []struct {
		name string
		s    []string
		want api.Errno
	}{
		{"none", nil, api.ErrNone},
		{"empty list", []string{}, api.ErrNone},
		{"many", zeros(1, 101), api.ErrLarge},
		{"many empty ones", zeros(0, 101), api.ErrLarge},
		{"their number before their form", append([]string{"0"}, zeros(2, 100)...), api.ErrLarge},
		{"long", zeros(201, 1), api.ErrLarge},
		{"the length of the first before its syntax", []string{strings.Repeat("x", 201)}, api.ErrLarge},
		{"a later one is long", []string{"0", strings.Repeat("0", 201)}, api.ErrForm},
		{"shorter", []string{"01", "0"}, api.ErrForm},
		{"longer", []string{"01", "01", "011"}, api.ErrForm},
		{"longer than none", []string{"", "0"}, api.ErrForm},
		{"empty", []string{"0", ""}, api.ErrForm},
		{"no bits", []string{"02"}, api.ErrSyntax},
		{"no bits later", []string{"01", "0x"}, api.ErrSyntax},
		{"form before syntax", []string{"01", "0x1"}, api.ErrForm},
		{"syntax of the first before form of the second", []string{"0x", "0"}, api.ErrSyntax},
		{"form of the second before syntax of the third", []string{"00", "0", "0x"}, api.ErrForm},
	} {
		if v, e := FromSequences(c.s); e != c.want || len(v) != 0 {
			t.Errorf("%s: %v %v, not %v", c.name, v, e, c.want)
		}
	}
}
