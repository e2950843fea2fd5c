// Package station follows boards through the steps of their tests, by what sites wrote down.
package station

import (
	"cmp"

	"scanchain/api"
	"scanchain/numbers"
	"scanchain/words"
)

// CheckFlow says what is wrong with a flow.
func CheckFlow(f api.Flow) api.Errno {
	if len(f.Steps) == 0 {
		return api.ErrNone
	}
	if len(f.Steps) > api.MaxSteps {
		return api.ErrLarge
	}
	isNew := words.Fresh[string]()
	for _, step := range f.Steps {
		switch {
		case !words.IsKey(step):
			return api.ErrName
		case !isNew(step):
			return api.ErrTwice
		}
	}
	if !numbers.AreWithin(1, api.MaxTries, f.Tries) {
		return api.ErrArg
	}
	return api.OK
}

// checkBoth says what is wrong with a flow and entries.
func checkBoth(f api.Flow, l []api.Entry) api.Errno {
	return cmp.Or(CheckFlow(f), CheckEntries(l))
}

func checkMoment(at int) api.Errno {
	if !numbers.IsMoment(at) {
		return api.ErrArg
	}
	return api.OK
}
