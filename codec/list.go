package codec

import (
	"strings"

	"pinakes/api"
)

// Pack returns a list of strings as bytes.
func Pack(l []string) string {
	var b strings.Builder
	writeNumber(&b, uint64(len(l)))
	for _, s := range l {
		writeNumber(&b, uint64(len(s)))
		b.WriteString(s)
	}
	return b.String()
}

// Unpack returns the list of strings whose Pack is s.
func Unpack(s string) ([]string, api.Errno) {
	return readList(s, (*listReader).text)
}

// Ints returns a list of integers as bytes.
func Ints(l []int) string {
	var b strings.Builder
	writeNumber(&b, uint64(len(l)))
	for _, n := range l {
		writeNumber(&b, Signed(n))
	}
	return b.String()
}

// ReadInts returns the list of integers whose Ints is s.
func ReadInts(s string) ([]int, api.Errno) {
	return readList(s, (*listReader).integer)
}

// readList reads the number of elements, that many elements, and the end.
func readList[T any](s string, element func(*listReader) (T, api.Errno)) ([]T, api.Errno) {
	r := listReader{reader: reader{rest: s}}
	if e := r.begin(); e != api.OK {
		return nil, e
	}
	// No room is made in advance: hostile bytes may announce more elements than memory holds.
	var list []T
	for r.more() {
		x, e := element(&r)
		if e != api.OK {
			return nil, e
		}
		list = append(list, x)
	}
	if e := r.end(); e != api.OK {
		return nil, e
	}
	return list, api.OK
}
