package marc

import (
	"strings"

	"pinakes/api"
)

// leastRecord is the size of a record without fields.
const leastRecord = leaderSize + 2

// Split divides s into records.
func Split(s string) ([]string, int, api.Errno) {
	var records []string
	for at := 0; at < len(s); {
		size, e := sizeOfFirst(s[at:])
		if e != api.OK {
			return records, at, e
		}
		records = append(records, strings.Clone(s[at:at+size]))
		at += size
	}
	return records, 0, api.OK
}

// sizeOfFirst returns the size of the record with which s begins.
func sizeOfFirst(s string) (int, api.Errno) {
	if len(s) < 5 {
		return 0, api.ErrShort
	}
	size, denoted := number(s[:5])
	if !denoted || size < leastRecord {
		return 0, api.ErrLeader
	}
	if size > len(s) {
		return 0, api.ErrShort
	}
	return size, api.OK
}
