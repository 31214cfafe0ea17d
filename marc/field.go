package marc

import (
	"strings"
	"unicode/utf8"

	"pinakes/api"
)

// readFields returns the fields of entries. The data begin at an offset of the record.
func readFields(data string, offset int, entries []entry) []api.Field {
	fields := make([]api.Field, 0, len(entries))
	for _, e := range entries {
		r := fieldReader{bytes: data[e.from : e.from+e.size], offset: offset + e.from}
		fields = append(fields, r.field(e.tag))
	}
	return fields
}

// fieldReader reads the bytes of a field, which begin at an offset of the record.
type fieldReader struct {
	bytes  string
	offset int
	at     int // how many bytes were read
}

// fail ends the reading at the next byte, or, where the bytes end too early, at the last one.
func (r *fieldReader) fail() {
	fail(r.offset+min(r.at, len(r.bytes)-1), api.ErrField)
}

func (r *fieldReader) field(tag string) api.Field {
	f := api.Field{Tag: tag}
	if isControl(tag) {
		f.Data = r.text()
	} else {
		f.Ind = r.indicators()
		f.Subs = r.subfields()
	}
	r.skip(fieldEnd)
	if r.at < len(r.bytes) {
		r.fail()
	}
	return f
}

func (r *fieldReader) indicators() string {
	r.take(isIndicator)
	r.take(isIndicator)
	return r.bytes[:r.at]
}

// subfields reads subfields up to the end of the field. There must be one.
func (r *fieldReader) subfields() []api.Sub {
	subs := make([]api.Sub, 0, strings.Count(r.bytes, string(rune(subfieldBegin))))
	for len(subs) == 0 || !r.sees(fieldEnd) {
		r.skip(subfieldBegin)
		code := r.take(isSign)
		subs = append(subs, api.Sub{Code: code, Text: r.text()})
	}
	return subs
}

// text reads the longest text that is there. It fails if a character is broken off behind it.
func (r *fieldReader) text() string {
	from := r.at
	r.at += lengthOfText(r.bytes[from:])
	text := r.bytes[from:r.at]
	if r.at < len(r.bytes) && r.bytes[r.at] >= ' ' {
		r.at += lengthOfBeginning(r.bytes[r.at:])
		r.fail()
	}
	return text
}

// lengthOfBeginning returns how many bytes of s are the beginning of a character, if s does not begin with a whole one.
func lengthOfBeginning(s string) int {
	length := 0
	for length < len(s) && !utf8.FullRuneInString(s[:length+1]) {
		length++
	}
	return length
}

// sees says whether the next byte is this one.
func (r *fieldReader) sees(b byte) bool {
	return r.at < len(r.bytes) && r.bytes[r.at] == b
}

// skip reads a certain byte.
func (r *fieldReader) skip(b byte) {
	if !r.sees(b) {
		r.fail()
	}
	r.at++
}

// take reads a byte of a certain sort.
func (r *fieldReader) take(permitted func(byte) bool) byte {
	if r.at == len(r.bytes) || !permitted(r.bytes[r.at]) {
		r.fail()
	}
	r.at++
	return r.bytes[r.at-1]
}
