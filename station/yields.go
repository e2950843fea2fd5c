package station

import (
	"cmp"
	"slices"

	"scanchain/api"
	"scanchain/numbers"
	"scanchain/ratio"
	"scanchain/words"
)

// mostDen is the most that the Den of a product can be.
const mostDen = 1_000_000_000_000_000

// ended returns the runs of a step that ended with a pass or a fail, in the order of their ends.
func (h *history) ended(step string) ([]run, api.Errno) {
	if !slices.Contains(h.flow.Steps, step) {
		return nil, api.ErrNone
	}
	var runs []run
	for _, r := range h.runs {
		if r.step == step && r.end != api.EntryScrap {
			runs = append(runs, r)
		}
	}
	return runs, api.OK
}

// Pass returns the first-pass yield of a step.
func Pass(f api.Flow, l []api.Entry, step string, at int) (api.Fraction, api.Errno) {
	return find(f, l, at, func(h *history) (api.Fraction, api.Errno) { return h.pass(step) })
}

func (h *history) pass(step string) (api.Fraction, api.Errno) {
	runs, e := h.ended(step)
	if e != api.OK {
		return api.Fraction{}, e
	}
	isFirst := words.Fresh[string]()
	passed, all := 0, 0
	for _, r := range runs {
		if !isFirst(r.board) {
			continue
		}
		all++
		if r.end == api.EntryPass {
			passed++
		}
	}
	if all == 0 {
		return api.Fraction{}, api.ErrNone
	}
	return ratio.Of(passed, all), api.OK
}

// Rolled returns the product of the first-pass yields of all steps.
func Rolled(f api.Flow, l []api.Entry, at int) (api.Fraction, api.Errno) {
	return find(f, l, at, (*history).rolled)
}

func (h *history) rolled() (api.Fraction, api.Errno) {
	var yields []api.Fraction
	for _, step := range h.flow.Steps {
		yield, e := h.pass(step)
		if e != api.OK {
			return api.Fraction{}, e
		}
		yields = append(yields, yield)
	}
	return product(yields)
}

// product returns the product of yields in lowest terms.
func product(yields []api.Fraction) (api.Fraction, api.Errno) {
	cancel(yields)
	whole := api.Fraction{Num: 1, Den: 1}
	for _, yield := range yields {
		whole.Den *= yield.Den
		// A Den is at most the number of boards: a product up to the limit and one Den more do not overflow.
		if whole.Den > mostDen {
			return api.Fraction{}, api.ErrFull
		}
	}
	for _, yield := range yields {
		// With a 0 among them the product is 0 in the end, whatever the others are.
		whole.Num *= yield.Num
	}
	return whole, api.OK
}

// cancel divides each Num and each Den of fractions by what both have in common. Products of what is left have nothing in common, so that only what is in their result is ever multiplied.
func cancel(fractions []api.Fraction) {
	for i := range fractions {
		for j := range fractions {
			lowest := ratio.Of(fractions[i].Num, fractions[j].Den)
			fractions[i].Num, fractions[j].Den = lowest.Num, lowest.Den
		}
	}
}

// Times returns how long the runs of a step took.
func Times(f api.Flow, l []api.Entry, step string, at int) ([]int, api.Errno) {
	return find(f, l, at, func(h *history) ([]int, api.Errno) {
		runs, e := h.ended(step)
		var times []int
		for _, r := range runs {
			times = append(times, r.to-r.from)
		}
		return times, e
	})
}

// Busy returns for how long a site ran boards.
func Busy(f api.Flow, l []api.Entry, site string, w api.Window) (int, api.Errno) {
	if e := cmp.Or(checkBoth(f, l), checkSite(site), checkWindow(w)); e != api.OK {
		return 0, e
	}
	h := follow(f, l, w.To-1)
	runs := h.runs
	if number, is := h.running[site]; is {
		runs = append(runs, run{site: site, from: h.boards[number].Since, to: w.To})
	}
	busy := 0
	for _, r := range runs {
		if r.site == site {
			busy += max(0, r.to-max(r.from, w.From))
		}
	}
	return busy, api.OK
}

func checkSite(site string) api.Errno {
	if !words.IsKey(site) {
		return api.ErrName
	}
	return api.OK
}

func checkWindow(w api.Window) api.Errno {
	if !numbers.AreWithin(0, w.To, w.From) || w.To > api.End {
		return api.ErrArg
	}
	return api.OK
}
