package marc

import (
	"strings"

	"pinakes/api"
)

// failure ends the reading of a record: whatever reads a part of it panics with a failure.
type failure struct {
	at   int
	kind api.Errno
}

// fail ends the reading with an error at an offset of the record.
func fail(at int, kind api.Errno) {
	panic(failure{at: at, kind: kind})
}

// Parse returns the record that s describes.
func Parse(s string) (record api.Record, at int, kind api.Errno) {
	defer func() {
		if f, failed := recover().(failure); failed {
			record, at, kind = api.Record{}, f.at, f.kind
		}
	}()
	return parse(s), 0, api.OK
}

func parse(s string) api.Record {
	checkLength(s)
	checkLeader(s)
	head := readHead(s)
	if last := len(s) - 1; s[last] != recordEnd {
		fail(last, api.ErrField)
	}
	// One copy is what all strings of the result are parts of: they share no memory with s.
	s = strings.Clone(s)
	entries := readDirectory(s, head)
	return api.Record{Kind: s[6], Level: s[7], Fields: readFields(s[head:], head, entries)}
}

// checkLength fails unless s has the length that its leader says.
func checkLength(s string) {
	if len(s) < leaderSize {
		fail(len(s), api.ErrShort)
	}
	size, denoted := number(s[:5])
	if denoted && size > len(s) {
		fail(len(s), api.ErrShort)
	}
	if !denoted || size < len(s) {
		fail(0, api.ErrLeader)
	}
}

// checkLeader fails unless the parts of the leader that are not numbers are right.
func checkLeader(s string) {
	for _, at := range []int{6, 7} {
		if !isLetter(s[at]) {
			fail(at, api.ErrLeader)
		}
	}
	expect(s, 9, "a")
	expect(s, 10, "22")
	expect(s, 20, "4500")
}

// expect fails unless certain bytes stand at an offset of the leader.
func expect(s string, at int, want string) {
	if !strings.HasPrefix(s[at:], want) {
		fail(at, api.ErrLeader)
	}
}

// readHead returns the length of the leader and the directory together.
func readHead(s string) int {
	const at = 12
	head, denoted := number(s[at : at+5])
	if !denoted || head < sizeOfHead(0) || head >= len(s) || (head-sizeOfHead(0))%entrySize != 0 || s[head-1] != fieldEnd {
		fail(at, api.ErrLeader)
	}
	if head > sizeOfHead(api.MaxFields) {
		fail(at, api.ErrMany)
	}
	return head
}

// entry says where in the data a field is.
type entry struct {
	tag        string
	from, size int
}

// readDirectory returns the entries, which are all checked before the first field is read.
func readDirectory(s string, head int) []entry {
	data := len(s) - 1 - head
	var entries []entry
	sum := 0
	for at := leaderSize; at < head-1; at += entrySize {
		e, right := readEntry(s[at : at+entrySize])
		sum += e.size
		if !right || e.size == 0 || e.from+e.size > data || sum > data {
			fail(at, api.ErrEntry)
		}
		entries = append(entries, e)
	}
	return entries
}

// readEntry returns an entry, and false if it has no tag or no numbers.
func readEntry(s string) (entry, bool) {
	size, sizeDenoted := number(s[3:7])
	from, fromDenoted := number(s[7:])
	e := entry{tag: s[:3], from: from, size: size}
	return e, isTag(e.tag) && sizeDenoted && fromDenoted
}
