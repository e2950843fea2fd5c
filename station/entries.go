package station

import (
	"cmp"
	"slices"

	"scanchain/api"
	"scanchain/numbers"
	"scanchain/words"
)

// mark is what an entry is known by.
type mark struct {
	site string
	no   int
}

func markOf(x api.Entry) mark {
	return mark{x.Site, x.No}
}

func inOrder(x, y api.Entry) int {
	return cmp.Or(cmp.Compare(x.At, y.At), cmp.Compare(x.Site, y.Site), cmp.Compare(x.No, y.No))
}

// CheckEntries says what is wrong with entries.
func CheckEntries(l []api.Entry) api.Errno {
	if len(l) > api.MaxEntries {
		return api.ErrLarge
	}
	for i, x := range l {
		if e := checkEntry(x); e != api.OK {
			return e
		}
		if i > 0 && inOrder(l[i-1], x) >= 0 {
			return api.ErrOrder
		}
	}
	isNew := words.Fresh[mark]()
	for _, x := range l {
		if !isNew(markOf(x)) {
			return api.ErrTwice
		}
	}
	return api.OK
}

// checkEntry says why an entry is not well formed.
func checkEntry(x api.Entry) api.Errno {
	switch {
	case !words.IsKey(x.Site):
		return api.ErrName
	case !isNumber(x.No), !numbers.IsMoment(x.At):
		return api.ErrArg
	case !numbers.AreWithin(api.EntryEnter, api.EntryUndo, x.Kind):
		return api.ErrKind
	case !hasNames(x):
		return api.ErrName
	case x.Kind == api.EntryUndo && !isNumber(x.Other):
		return api.ErrArg
	case x != used(x):
		return api.ErrForm
	}
	return api.OK
}

// isNumber reports whether an entry can have a number.
func isNumber(no int) bool {
	return numbers.AreWithin(1, api.MaxNo, no)
}

// hasNames reports whether all names that the kind of an entry uses are keys.
func hasNames(x api.Entry) bool {
	switch x.Kind {
	case api.EntryUndo:
		return words.IsKey(x.Of)
	case api.EntryStart:
		return words.IsKey(x.Board) && words.IsKey(x.Step)
	}
	return words.IsKey(x.Board)
}

// used returns an entry with only what its kind uses.
func used(x api.Entry) api.Entry {
	u := api.Entry{Site: x.Site, No: x.No, At: x.At, Kind: x.Kind}
	switch x.Kind {
	case api.EntryUndo:
		u.Of, u.Other = x.Of, x.Other
	case api.EntryStart:
		u.Board, u.Step = x.Board, x.Step
	default:
		u.Board = x.Board
	}
	return u
}

// Merge returns the entries of both lists.
func Merge(a, b []api.Entry) ([]api.Entry, api.Errno) {
	if e := cmp.Or(CheckEntries(a), CheckEntries(b)); e != api.OK {
		return nil, e
	}
	known := map[mark]api.Entry{}
	var merged []api.Entry
	for _, x := range slices.Concat(a, b) {
		before, has := known[markOf(x)]
		switch {
		case !has:
			known[markOf(x)] = x
			merged = append(merged, x)
		case before != x:
			return nil, api.ErrConflict
		}
	}
	if len(merged) > api.MaxEntries {
		return nil, api.ErrLarge
	}
	slices.SortFunc(merged, inOrder)
	return merged, api.OK
}

// Write adds an entry of a site.
func Write(l []api.Entry, x api.Entry) ([]api.Entry, api.Errno) {
	if e := CheckEntries(l); e != api.OK {
		return nil, e
	}
	if x.No != 0 {
		return nil, api.ErrForm
	}
	x.No = lastNo(l, x.Site) + 1
	if e := checkEntry(x); e != api.OK {
		return nil, e
	}
	if len(l) > 0 && inOrder(l[len(l)-1], x) >= 0 {
		return nil, api.ErrOrder
	}
	if len(l) == api.MaxEntries {
		return nil, api.ErrLarge
	}
	return slices.Concat(l, []api.Entry{x}), api.OK
}

// lastNo returns the greatest number of a site, and 0 if it has written nothing.
func lastNo(l []api.Entry, site string) int {
	last := 0
	for _, x := range l {
		if x.Site == site {
			last = max(last, x.No)
		}
	}
	return last
}

// Counting returns the entries that count at a moment.
func Counting(l []api.Entry, at int) ([]int, api.Errno) {
	if e := cmp.Or(CheckEntries(l), checkMoment(at)); e != api.OK {
		return nil, e
	}
	return counting(l, at), api.OK
}

// counting returns the indices of the entries that count at a moment.
func counting(l []api.Entry, at int) []int {
	undone := map[mark]bool{}
	var indices []int
	// From the last one on: whether an entry counts depends on later ones alone.
	for i, x := range slices.Backward(l) {
		if x.At > at || undone[markOf(x)] {
			continue
		}
		if x.Kind == api.EntryUndo {
			undone[mark{x.Of, x.Other}] = true
		}
		indices = append(indices, i)
	}
	slices.Reverse(indices)
	return indices
}
