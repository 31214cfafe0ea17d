package codec

import (
	"strings"

	"pinakes/api"
)

// reader takes values off the front of the bytes that are left.
type reader struct {
	rest string
}

// number takes a number.
func (r *reader) number() (uint64, api.Errno) {
	n, size, e := ReadNumber(r.rest)
	if e != api.OK {
		return 0, e
	}
	r.rest = r.rest[size:]
	return n, api.OK
}

// integer takes a number that stands for an integer.
func (r *reader) integer() (int, api.Errno) {
	n, e := r.number()
	if e != api.OK {
		return 0, e
	}
	return Unsigned(n), api.OK
}

// text takes a length, and as many bytes.
func (r *reader) text() (string, api.Errno) {
	size, e := r.number()
	if e != api.OK {
		return "", e
	}
	// Compared as uint64: a huge length would be a negative int.
	if size > uint64(len(r.rest)) {
		return "", api.ErrShort
	}
	// A copy: a short text shall not keep all the bytes alive in which it stood.
	s := strings.Clone(r.rest[:size])
	r.rest = r.rest[size:]
	return s, api.OK
}

// end says whether nothing is left.
func (r *reader) end() api.Errno {
	if r.rest != "" {
		return api.ErrForm
	}
	return api.OK
}

// listReader is a reader that knows how many elements of a list it must still take.
type listReader struct {
	reader
	left uint64
}

// begin takes the number of elements.
func (l *listReader) begin() api.Errno {
	n, e := l.number()
	l.left = n
	return e
}

// more counts the next element, if there is one.
func (l *listReader) more() bool {
	if l.left == 0 {
		return false
	}
	l.left--
	return true
}
