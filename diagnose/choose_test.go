package diagnose

import (
	"slices"
	"strings"
	"testing"

	"scanchain/api"
)

func wantBest(t *testing.T, name string, d api.Dictionary, s []api.Seen, test, most int) {
	t.Helper()
	n, many, is, e := Best(d, s)
	if e != api.OK || !is || n != test || many != most {
		t.Errorf("%s: %d %d %v %v, not %d %d", name, n, many, is, e, test, most)
	}
}

func wantNoBest(t *testing.T, name string, d api.Dictionary, s []api.Seen) {
	t.Helper()
	if n, many, is, e := Best(d, s); e != api.OK || is || n != 0 || many != 0 {
		t.Errorf("%s: %d %d %v %v", name, n, many, is, e)
	}
}

func TestBest(t *testing.T) {
	wantBest(t, "the other one", small(), []api.Seen{seen(0, "1")}, 1, 1)
	wantBest(t, "nothing seen, the first of two", small(), nil, 0, 3)
	wantBest(t, "two are left, and not told apart", dictionary("0 0", "a 1 1", "b 1 1"), []api.Seen{seen(0, "1")}, 1, 2)
	wantBest(t, "no fault counts", dictionary("0 0 0", "a 1 1 0", "b 0 1 1", "c 1 0 1"), nil, 0, 2)
	wantBest(t, "no fault does not count where it is not consistent", dictionary("0 1 0 0", "a 1 1 1 1", "b 1 0 2 1"), []api.Seen{seen(0, "1")}, 1, 1)
	wantBest(t, "one fault and no fault", dictionary("0 0 1", "a 0 0 2"), []api.Seen{seen(0, "0")}, 2, 1)
	wantBest(t, "the smallest maximum, later", dictionary("0 0", "a 0 0", "b 0 1", "c 1 1"), nil, 1, 2)
	wantBest(t, "more different responses", dictionary("0 0", "a 0 0", "b 1 1", "c 1 2"), nil, 1, 2)
	wantBest(t, "the maximum before the number of responses", dictionary("0 0", "a 0 0", "b 0 1", "c 1 1", "d 2 0", "e 3 1"), nil, 0, 3)
	wantBest(t, "the first of several with as many responses", dictionary("0 0 0", "a 0 1 1", "b 0 2 2"), nil, 1, 1)
	wantBest(t, "those that are not candidates do not count", dictionary("0 0 0", "a 1 0 0", "b 1 0 1", "c 0 1 2", "d 0 2 3"), []api.Seen{seen(0, "1")}, 2, 1)
	wantNoBest(t, "all seen", small(), []api.Seen{seen(0, "0"), seen(1, "0")})
	wantNoBest(t, "one fault is left", dictionary("0 0", "a 1 0", "b 2 0"), []api.Seen{seen(0, "1")})
	wantNoBest(t, "no fault is left", dictionary("0 0", "a 1 0"), []api.Seen{seen(0, "0")})
	wantNoBest(t, "nothing is left", small(), []api.Seen{seen(0, "x")})
	wantNoBest(t, "no faults", dictionary("0 0"), nil)
}

func TestBestIsPlain(t *testing.T) {
	found := map[bool]int{}
	randomCases(1500, 5, 8, func(d api.Dictionary, _ []int, s []api.Seen) {
		var left []string
		for _, fault := range append([]string{""}, faultsOf(d)...) {
			if !slices.ContainsFunc(s, func(one api.Seen) bool { return responseOf(d, fault, one.Test) != one.Response }) {
				left = append(left, fault)
			}
		}
		var all [][3]int // the maximum, less the number of different responses, the test
		for _, test := range testsOf(d) {
			if slices.ContainsFunc(s, func(one api.Seen) bool { return one.Test == test }) {
				continue
			}
			most, different := 0, 0
			for i, fault := range left {
				same := func(other string) bool { return responseOf(d, other, test) == responseOf(d, fault, test) }
				if !slices.ContainsFunc(left[:i], same) {
					different++
				}
				count := 0
				for _, other := range left {
					if same(other) {
						count++
					}
				}
				most = max(most, count)
			}
			all = append(all, [3]int{most, -different, test})
		}
		slices.SortFunc(all, func(x, y [3]int) int { return slices.Compare(x[:], y[:]) })
		found[len(left) > 1 && len(all) > 0]++
		if len(left) <= 1 || len(all) == 0 {
			wantNoBest(t, "random", d, s)
			return
		}
		wantBest(t, "random", d, s, all[0][2], all[0][0])
	})
	if found[true] < 100 || found[false] < 100 {
		t.Error("few cases", found)
	}
}

func TestFewest(t *testing.T) {
	wantList(t, "both", 0, 1)(Fewest(small()))
	wantList[int](t, "nothing is told apart")(Fewest(sized(10, 300)))
	wantList[int](t, "no faults")(Fewest(dictionary("0 0")))
	wantList(t, "the first of several", 0)(Fewest(dictionary("0 0 0", "a 1 1 1")))
	wantList(t, "one that tells all apart", 2)(Fewest(dictionary("0 0 0", "a 1 1 1", "b 0 1 2")))
	wantList(t, "faults and no fault", 1)(Fewest(dictionary("0 0", "a 0 1", "b 0 1")))
	wantList(t, "faults that are both detected", 0)(Fewest(dictionary("0 0", "a 1 1", "b 2 1")))
	wantList(t, "what no test tells apart", 0, 1)(Fewest(dictionary("0 0 0", "a 1 0 1", "b 0 1 1", "c 0 1 1")))
	wantList(t, "the least of several lists", 0, 1)(Fewest(dictionary("0 0 0", "a 1 0 1", "b 0 1 1", "c 1 1 0")))
	randomCases(1000, 6, 8, func(d api.Dictionary, _ []int, _ []api.Seen) {
		want := plainPairs(d, testsOf(d))
		for _, tests := range choices(testsOf(d)) {
			if slices.Equal(plainPairs(d, tests), want) {
				wantList(t, "random", tests...)(Fewest(d))
				break
			}
		}
	})
}

// ofOwnTests returns a dictionary with a fault for each test, which it alone detects.
func ofOwnTests(tests int) api.Dictionary {
	d := sized(tests, tests)
	for i := range d.Rows {
		d.Rows[i].Responses = slices.Clone(d.Good)
		d.Rows[i].Responses[i] = "1"
	}
	return d
}

func TestFewestSize(t *testing.T) {
	wantList(t, "most tests", 0, 1, 2, 3, 4, 5, 6, 7, 8, 9)(Fewest(ofOwnTests(10)))
	for _, d := range []api.Dictionary{ofOwnTests(11), sized(11, 0), sized(100, 300)} {
		if l, e := Fewest(d); e != api.ErrLarge || len(l) != 0 {
			t.Error(l, e)
		}
	}
	most := sized(10, 300)
	for i := range most.Rows {
		most.Rows[i].Responses = slices.Clone(most.Good)
		for bit := range 9 {
			most.Rows[i].Responses[bit] = string(rune('0' + i>>bit&1))
		}
	}
	wantList(t, "most faults", 0, 1, 2, 3, 4, 5, 6, 7, 8)(Fewest(most))
}

func wantDepth(t *testing.T, name string, d api.Dictionary, depth, first int) {
	t.Helper()
	n, k, e := Depth(d)
	if e != api.OK || n != depth || k != first {
		t.Errorf("%s: %d %d %v, not %d %d", name, n, k, e, depth, first)
	}
}

func TestDepth(t *testing.T) {
	wantDepth(t, "two", small(), 2, 0)
	wantDepth(t, "as in the example", dictionary("0 0", "a 1 0", "b 0 1", "c 1 1"), 2, 0)
	wantDepth(t, "no faults", dictionary("0 0"), 0, 0)
	wantDepth(t, "nothing is told apart", sized(10, 10), 0, 0)
	wantDepth(t, "one later test", dictionary("0 0 0", "a 0 1 1", "b 0 1 1"), 1, 1)
	wantDepth(t, "one that tells all apart", dictionary("0 0 0", "a 1 1 1", "b 0 1 2"), 1, 2)
	wantDepth(t, "a good first one that is not the first", dictionary("0 0 0 0", "a 1 0 0 0", "b 0 1 1 0", "c 0 0 1 1"), 2, 2)
	wantDepth(t, "the next test depends on the response", dictionary("0 0 0", "a 0 1 0", "b 1 0 0", "c 1 0 1"), 2, 0)
	wantDepth(t, "fewer than Fewest", dictionary("0 0 0 0", "a 0 1 0 0", "b 1 0 0 0", "c 1 0 1 0", "d 2 0 0 0", "e 2 0 0 1"), 2, 0)
	wantDepth(t, "no test tells some apart", dictionary("0 0", "a 0 0", "b 1 1", "c 1 1"), 1, 0)
}

// plainDepth tries all tests that were not made, for what is left.
func plainDepth(d api.Dictionary, left []string, made []int) (int, int) {
	if !slices.ContainsFunc(left, func(fault string) bool { return plainApart(d, fault, left[0], testsOf(d)) }) {
		return 0, 0
	}
	depth, first := -1, 0
	for _, test := range testsOf(d) {
		if slices.Contains(made, test) {
			continue
		}
		worst := 0
		for _, fault := range left {
			var same []string
			for _, other := range left {
				if !plainApart(d, fault, other, []int{test}) {
					same = append(same, other)
				}
			}
			more, _ := plainDepth(d, same, append(slices.Clone(made), test))
			worst = max(worst, 1+more)
		}
		if depth < 0 || worst < depth {
			depth, first = worst, test
		}
	}
	return depth, first
}

func TestDepthIsPlain(t *testing.T) {
	depths := map[int]int{}
	randomCases(300, 4, 7, func(d api.Dictionary, _ []int, _ []api.Seen) {
		depth, first := plainDepth(d, append([]string{""}, faultsOf(d)...), nil)
		wantDepth(t, "random", d, depth, first)
		depths[depth]++
	})
	for depth := range 4 {
		if depths[depth] < 5 {
			t.Error("few depths", depths)
		}
	}
}

func TestDepthSize(t *testing.T) {
	wantDepth(t, "most: each test tells one fault", ofOwnTests(10), 10, 0)
	most := sized(10, 10)
	for i := range most.Rows {
		most.Rows[i].Responses = slices.Clone(most.Good)
		most.Rows[i].Responses[9] = strings.Repeat("1", i+1)
	}
	wantDepth(t, "the last test tells all", most, 1, 9)
	for _, d := range []api.Dictionary{sized(11, 0), sized(1, 11), sized(11, 11), sized(100, 300), ofOwnTests(11)} {
		if n, k, e := Depth(d); e != api.ErrLarge || n != 0 || k != 0 {
			t.Error(n, k, e)
		}
	}
	randomCases(20, 10, 10, func(d api.Dictionary, _ []int, _ []api.Seen) {
		depth, _, e := Depth(d)
		fewest, _ := Fewest(d)
		if e != api.OK || depth > len(fewest) {
			t.Error(depth, fewest, e)
		}
	})
}
