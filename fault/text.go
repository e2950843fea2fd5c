package fault

import (
	"strconv"

	"scanchain/api"
	"scanchain/words"
)

// kindWords has the word for each kind.
var kindWords = [...]string{
	api.FaultStuck0: "stuck0",
	api.FaultStuck1: "stuck1",
	api.FaultAnd:    "and",
	api.FaultOr:     "or",
	api.FaultFirst:  "first",
	api.FaultOpen:   "open",
}

// Text writes a line for each fault.
func Text(f []api.Fault) (string, api.Errno) {
	if e := checkFaults(api.MaxNets, f); e != api.OK {
		return "", e
	}
	return words.Write(func(line func(...string)) {
		for _, one := range f {
			parts := []string{kindWords[one.Kind]}
			for _, net := range one.Nets {
				parts = append(parts, strconv.Itoa(net))
			}
			line(parts...)
		}
	})
}

// Read reads faults.
func Read(nets int, text string) ([]api.Fault, int, api.Errno) {
	if e := checkNets(nets); e != api.OK {
		return nil, 0, e
	}
	return words.ReadList(text, readFault, func(f []api.Fault) api.Errno { return checkFaults(nets, f) })
}

// readFault returns the fault of a line, and true; false if it is not a line of a fault.
func readFault(line string) (api.Fault, bool) {
	parts, good := words.Split(line)
	if !good || len(parts) < 2 {
		return api.Fault{}, false
	}
	kind := kindOf(parts[0])
	nets, are := words.Numbers(parts[1:])
	return api.Fault{Kind: kind, Nets: nets}, are && isKind(kind)
}

// kindOf returns the kind with a word; 0 if there is none.
func kindOf(word string) int {
	for kind, known := range kindWords {
		if known == word {
			return kind
		}
	}
	return 0
}
