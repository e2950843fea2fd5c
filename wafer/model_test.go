package wafer

import (
	"cmp"
	"fmt"
	"math/big"
	"math/rand/v2"
	"slices"
	"strings"
	"testing"

	"scanchain/api"
)

// cross is the wafer of the document's example.
func cross() api.Wafer { return waferWith("1", "1x1", "xxx", "1x1") }

func waferWith(pass string, rows ...string) api.Wafer { return api.Wafer{Rows: rows, Pass: pass} }

func at(x, y int) api.Point { return api.Point{X: x, Y: y} }

func fraction(num, den int) api.Fraction { return api.Fraction{Num: num, Den: den} }

// comesBefore reports whether a point comes before another one.
func comesBefore(p, q api.Point) bool {
	return p.Y < q.Y || p.Y == q.Y && p.X < q.X
}

// order compares points, for sorting.
func order(p, q api.Point) int {
	switch {
	case comesBefore(p, q):
		return -1
	case comesBefore(q, p):
		return 1
	}
	return 0
}

// plainDies has the byte of each place with a die.
func plainDies(w api.Wafer) map[api.Point]byte {
	dies := map[api.Point]byte{}
	for y, row := range w.Rows {
		for x := range row {
			if row[x] != '.' {
				dies[at(x, y)] = row[x]
			}
		}
	}
	return dies
}

func sortedPlaces[T any](dies map[api.Point]T) []api.Point {
	var places []api.Point
	for p := range dies {
		places = append(places, p)
	}
	slices.SortFunc(places, order)
	return places
}

func plainTested(die byte) bool { return die != 0 && die != '.' && die != '?' }

func plainPassed(w api.Wafer, die byte) bool { return strings.ContainsRune(w.Pass, rune(die)) }

func plainFailed(w api.Wafer, die byte) bool {
	return plainTested(die) && die != '*' && !plainPassed(w, die)
}

// areNear reports whether two places are neighbours, if both have dies.
func areNear(p, q api.Point) bool {
	return p != q && max(p.X-q.X, q.X-p.X) <= 1 && max(p.Y-q.Y, q.Y-p.Y) <= 1
}

// plainNeighbours has the neighbours of a place that are accepted, from all dies.
func plainNeighbours(w api.Wafer, p api.Point, is func(die byte) bool) []api.Point {
	dies := plainDies(w)
	return slices.DeleteFunc(sortedPlaces(dies), func(q api.Point) bool {
		return !areNear(p, q) || !is(dies[q])
	})
}

func plainFailedAround(w api.Wafer, p api.Point) int {
	return len(plainNeighbours(w, p, func(die byte) bool { return plainFailed(w, die) }))
}

func plainEdge(w api.Wafer) []api.Point {
	return slices.DeleteFunc(sortedPlaces(plainDies(w)), func(p api.Point) bool {
		return len(plainNeighbours(w, p, func(byte) bool { return true })) == 8
	})
}

// plainPart is the part of tested dies that passed, and whether any is tested.
func plainPart(w api.Wafer, places []api.Point) (api.Fraction, bool) {
	dies := plainDies(w)
	passed, tested := 0, 0
	for _, p := range places {
		if plainTested(dies[p]) {
			tested++
		}
		if plainPassed(w, dies[p]) {
			passed++
		}
	}
	if tested == 0 {
		return api.Fraction{}, false
	}
	part := big.NewRat(int64(passed), int64(tested))
	return fraction(int(part.Num().Int64()), int(part.Denom().Int64())), true
}

// plainClusters gives each failed die a group of its own, and joins the groups of neighbours until nothing changes.
func plainClusters(w api.Wafer, least int) [][]api.Point {
	dies := plainDies(w)
	group := map[api.Point]api.Point{}
	for p, die := range dies {
		if plainFailed(w, die) {
			group[p] = p
		}
	}
	for changed := true; changed; {
		changed = false
		for p := range group {
			for q := range group {
				if areNear(p, q) && comesBefore(group[p], group[q]) {
					group[q] = group[p]
					changed = true
				}
			}
		}
	}
	members := map[api.Point][]api.Point{}
	for _, p := range sortedPlaces(group) {
		members[group[p]] = append(members[group[p]], p)
	}
	var groups [][]api.Point
	for _, first := range sortedPlaces(members) {
		if len(members[first]) >= least {
			groups = append(groups, members[first])
		}
	}
	return groups
}

// plainRings has the dies of each ring.
func plainRings(w api.Wafer) [][]api.Point {
	var rings [][]api.Point
	left := sortedPlaces(plainDies(w))
	for ring := plainEdge(w); len(ring) > 0; {
		rings = append(rings, ring)
		left = slices.DeleteFunc(left, func(p api.Point) bool { return slices.Contains(ring, p) })
		var next []api.Point
		for _, p := range left {
			if slices.ContainsFunc(ring, func(q api.Point) bool { return areNear(p, q) }) {
				next = append(next, p)
			}
		}
		ring = next
	}
	return rings
}

// plainRepeats goes through the places of the mask, and for each one through all places of the wafer.
func plainRepeats(w api.Wafer, wide, high int, least api.Fraction) []api.Point {
	var found []api.Point
	for y := range high {
		for x := range wide {
			failed, tested := int64(0), int64(0)
			for p, die := range plainDies(w) {
				if p.X%wide != x || p.Y%high != y {
					continue
				}
				if plainTested(die) {
					tested++
				}
				if plainFailed(w, die) {
					failed++
				}
			}
			if tested > 0 && big.NewRat(failed, tested).Cmp(big.NewRat(int64(least.Num), int64(least.Den))) >= 0 {
				found = append(found, at(x, y))
			}
		}
	}
	return found
}

// plainRows follows P9.4: as long as there are dies that were not touched.
func plainRows(w api.Wafer, card []api.Point) ([]api.Point, int) {
	var touchdowns []api.Point
	again := 0
	dies := plainDies(w)
	times := map[api.Point]int{}
	for {
		first := slices.IndexFunc(sortedPlaces(dies), func(p api.Point) bool { return dies[p] == '?' && times[p] == 0 })
		if first < 0 {
			return touchdowns, again
		}
		p := sortedPlaces(dies)[first]
		touchdown := at(p.X-card[0].X, p.Y-card[0].Y)
		touchdowns = append(touchdowns, touchdown)
		for _, site := range card {
			q := at(touchdown.X+site.X, touchdown.Y+site.Y)
			if die, is := dies[q]; is && (die != '?' || times[q] > 0) {
				again++
			}
			times[q]++
		}
	}
}

// plainFewest tries all lists of possible touchdowns that rise, the shorter ones first, those of a length in lexicographic order.
func plainFewest(w api.Wafer, card []api.Point) ([]api.Point, bool) {
	dies := plainDies(w)
	untested := slices.DeleteFunc(sortedPlaces(dies), func(p api.Point) bool { return dies[p] != '?' })
	var all []api.Point
	reach := map[api.Point][]api.Point{}
	for y := -59; y < 60; y++ {
		for x := -59; x < 60; x++ {
			touched, good := []api.Point(nil), true
			for _, site := range card {
				p := at(x+site.X, y+site.Y)
				good = good && !plainTested(dies[p])
				if dies[p] == '?' {
					touched = append(touched, p)
				}
			}
			if good && len(touched) > 0 {
				all = append(all, at(x, y))
				reach[at(x, y)] = touched
			}
		}
	}
	var search func(chosen []api.Point, from, more int, touched map[api.Point]bool) []api.Point
	search = func(chosen []api.Point, from, more int, touched map[api.Point]bool) []api.Point {
		if more == 0 {
			if len(touched) < len(untested) {
				return nil
			}
			return append([]api.Point{}, chosen...)
		}
		for i := from; i < len(all); i++ {
			next := map[api.Point]bool{}
			for _, p := range slices.Concat(sortedPlaces(touched), reach[all[i]]) {
				next[p] = true
			}
			if len(next) == len(touched)+len(reach[all[i]]) {
				if found := search(append(chosen, all[i]), i+1, more-1, next); found != nil {
					return found
				}
			}
		}
		return nil
	}
	for long := range len(untested) + 1 {
		if found := search(nil, 0, long, nil); found != nil {
			return found, true
		}
	}
	return nil, false
}

// plainRoute is the best of all orders.
func plainRoute(p []api.Point) ([]int, int) {
	var best []int
	shortest := 0
	var search func(order []int)
	search = func(order []int) {
		for next := range p {
			if !slices.Contains(order, next) {
				search(append(slices.Clone(order), next))
			}
		}
		if len(order) < len(p) {
			return
		}
		sum := 0
		for i := 1; i < len(order); i++ {
			from, to := p[order[i-1]], p[order[i]]
			sum += max(from.X-to.X, to.X-from.X, from.Y-to.Y, to.Y-from.Y)
		}
		if best == nil || cmp.Or(cmp.Compare(sum, shortest), slices.Compare(order, best)) < 0 {
			best, shortest = order, sum
		}
	}
	search([]int{0})
	return best, shortest
}

func plainText(w api.Wafer) string {
	text := "pass " + w.Pass + "\n"
	if w.Pass == "" {
		text = "pass -\n"
	}
	for _, row := range w.Rows {
		var runs []string
		for from := 0; from < len(row); {
			to := from
			for to < len(row) && row[to] == row[from] {
				to++
			}
			runs = append(runs, fmt.Sprintf("%d[%c]", to-from, row[from]))
			if to == from+1 {
				runs[len(runs)-1] = fmt.Sprintf("[%c]", row[from])
			}
			from = to
		}
		text += strings.Join(runs, " ") + "\n"
	}
	return text
}

// randomWafer returns a wafer with some of the bytes of a string.
func randomWafer(r *rand.Rand, most int, bytes string) api.Wafer {
	wide, high := 1+r.IntN(most), 1+r.IntN(most)
	var rows []string
	for range high {
		row := ""
		for range wide {
			row += string(bytes[r.IntN(len(bytes))])
		}
		rows = append(rows, row)
	}
	return waferWith([]string{"", "1", "1a", "019az", "z"}[r.IntN(5)], rows...)
}

// randomCases calls do with wafers of which some have few dies, and some have few that are tested.
func randomCases(count int, do func(r *rand.Rand, w api.Wafer)) {
	r := rand.New(rand.NewPCG(9, 1))
	for i := range count {
		do(r, randomWafer(r, 7, []string{"1x", "1111111xa", "09az?*.", "1x?*", "111111x.", "....?1x", "???1"}[i%7]))
	}
}

// randomCard returns a card with sites that are near each other.
func randomCard(r *rand.Rand, most int) []api.Point {
	var card []api.Point
	for range 1 + r.IntN(most) {
		card = append(card, at(r.IntN(3), r.IntN(3)))
	}
	slices.SortFunc(card, order)
	card = slices.Compact(card)
	least := card[0]
	for _, site := range card {
		least.X = min(least.X, site.X)
	}
	for i := range card {
		card[i] = at(card[i].X-least.X, card[i].Y-least.Y)
	}
	return card
}

// wantList reports a list or an error that is not the one that is wanted.
func wantList[T comparable](t *testing.T, name string, want ...T) func(got []T, e api.Errno) {
	return func(got []T, e api.Errno) {
		t.Helper()
		if e != api.OK || !slices.Equal(got, want) {
			t.Errorf("%s: %v %v, not %v", name, got, e, want)
		}
	}
}

func sameWafer(x, y api.Wafer) bool {
	return x.Pass == y.Pass && slices.Equal(x.Rows, y.Rows)
}

func wantWafer(t *testing.T, name string, want api.Wafer) func(got api.Wafer, e api.Errno) {
	return func(got api.Wafer, e api.Errno) {
		t.Helper()
		if e != api.OK || !sameWafer(got, want) {
			t.Errorf("%s: %q %v, not %q", name, got, e, want)
		}
	}
}

// isNone reports whether a wafer is a zero value.
func isNone(w api.Wafer) bool { return len(w.Rows) == 0 && w.Pass == "" }
