package lot

import (
	"strconv"

	"scanchain/api"
	"scanchain/words"
)

// Text writes a line for each record.
func Text(l []api.Limit, r []api.Record) (string, api.Errno) {
	if e := CheckRecords(l, r); e != api.OK {
		return "", e
	}
	return words.Write(func(line func(...string)) {
		for _, record := range r {
			parts := []string{record.Unit, strconv.Itoa(record.At), record.Site}
			for _, result := range record.Results {
				parts = append(parts, strconv.Itoa(result))
			}
			line(parts...)
		}
	})
}

// Read reads records.
func Read(l []api.Limit, text string) ([]api.Record, int, api.Errno) {
	if e := CheckLimits(l); e != api.OK {
		return nil, 0, e
	}
	return words.ReadList(text, readRecord, func(r []api.Record) api.Errno { return CheckRecords(l, r) })
}

// readRecord returns the record of a line, and true; false if it is not a line of a record.
func readRecord(line string) (api.Record, bool) {
	parts, good := words.Split(line)
	if !good || len(parts) < 4 {
		return api.Record{}, false
	}
	at, isNumber := words.Number(parts[1])
	results, areNumbers := words.Numbers(parts[3:])
	return api.Record{Unit: parts[0], At: at, Site: parts[2], Results: results}, isNumber && areNumbers
}
