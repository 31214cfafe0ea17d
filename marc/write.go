package marc

import (
	"strings"

	"pinakes/api"
)

// Write returns r as bytes.
func Write(r api.Record) (string, api.Errno) {
	if e := check(r); e != api.OK {
		return "", e
	}
	var b strings.Builder
	b.Grow(sizeOfRecord(r))
	writeLeader(&b, r)
	writeDirectory(&b, r.Fields)
	for _, f := range r.Fields {
		writeField(&b, f)
	}
	b.WriteByte(recordEnd)
	return b.String(), api.OK
}

// Right says whether r can be written.
func Right(r api.Record) bool { return check(r) == api.OK }

// check returns the error of writing r. The limits come last: a record beyond them may have a field that is not right.
func check(r api.Record) api.Errno {
	if !isLetter(r.Kind) || !isLetter(r.Level) {
		return api.ErrLeader
	}
	large := len(r.Fields) > api.MaxFields
	for _, f := range r.Fields {
		if !isTag(f.Tag) {
			return api.ErrEntry
		}
		if !isRightField(f) {
			return api.ErrField
		}
		large = large || sizeOfField(f) > api.MaxText
	}
	if large || sizeOfRecord(r) > api.MaxRecord {
		return api.ErrMany
	}
	return api.OK
}

// isRightField says whether a field is right, apart from its tag.
func isRightField(f api.Field) bool {
	if isControl(f.Tag) {
		return f.Ind == "" && len(f.Subs) == 0 && isText(f.Data)
	}
	if f.Data != "" || len(f.Ind) != 2 || !isIndicator(f.Ind[0]) || !isIndicator(f.Ind[1]) {
		return false
	}
	for _, s := range f.Subs {
		if !isSign(s.Code) || !isText(s.Text) {
			return false
		}
	}
	return len(f.Subs) > 0
}

// sizeOfField returns the number of the bytes of a right field.
func sizeOfField(f api.Field) int {
	size := len(f.Data) + len(f.Ind) + 1
	for _, s := range f.Subs {
		size += 2 + len(s.Text)
	}
	return size
}

// sizeOfHead returns the length of the leader and the directory for so many fields.
func sizeOfHead(fields int) int { return leaderSize + entrySize*fields + 1 }

func sizeOfRecord(r api.Record) int {
	size := sizeOfHead(len(r.Fields)) + 1
	for _, f := range r.Fields {
		size += sizeOfField(f)
	}
	return size
}

func writeLeader(b *strings.Builder, r api.Record) {
	writeDigits(b, sizeOfRecord(r), 5)
	b.WriteByte('n')
	b.WriteByte(r.Kind)
	b.WriteByte(r.Level)
	b.WriteString(" a22")
	writeDigits(b, sizeOfHead(len(r.Fields)), 5)
	b.WriteString("   4500")
}

func writeDirectory(b *strings.Builder, fields []api.Field) {
	before := 0
	for _, f := range fields {
		size := sizeOfField(f)
		b.WriteString(f.Tag)
		writeDigits(b, size, 4)
		writeDigits(b, before, 5)
		before += size
	}
	b.WriteByte(fieldEnd)
}

func writeField(b *strings.Builder, f api.Field) {
	b.WriteString(f.Data)
	b.WriteString(f.Ind)
	for _, s := range f.Subs {
		b.WriteByte(subfieldBegin)
		b.WriteByte(s.Code)
		b.WriteString(s.Text)
	}
	b.WriteByte(fieldEnd)
}

// writeDigits writes a number that has at most so many digits.
func writeDigits(b *strings.Builder, n, digits int) {
	if digits > 1 {
		writeDigits(b, n/10, digits-1)
	}
	b.WriteByte('0' + byte(n%10))
}
