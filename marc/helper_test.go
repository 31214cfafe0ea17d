package marc_test

import (
	"fmt"
	"slices"
	"strconv"
	"strings"
	"testing"

	"pinakes/api"
	"pinakes/marc"
	"pinakes/sample"
)

// example is the record of the chapter, and emma one with characters of several bytes.
const (
	example = "00058nam a2200049   4500001000200000245000600002\x1ex\x1e10\x1faT\x1e\x1d"
	emma    = "00105ncm a2200061   4500001000400000100002000004245001900024\x1eno7\x1e1 \x1faÉmile\x1fdné €\x1e10\x1faEmma😀\x1fbА\x1fc\x1e\x1d"
)

func exampleRecord() api.Record {
	return record(control("001", "x"), field("245", "10", "aT"))
}

func emmaRecord() api.Record {
	r := record(control("001", "no7"), field("100", "1 ", "aÉmile", "dné €"), field("245", "10", "aEmma😀", "bА", "c"))
	r.Kind = 'c'
	return r
}

// The fields of the tests are written in this way.
var field, control = sample.Field, sample.Control

func record(fields ...api.Field) api.Record {
	return api.Record{Kind: 'a', Level: 'm', Fields: fields}
}

func many(f api.Field, times int) []api.Field {
	return slices.Repeat([]api.Field{f}, times)
}

// around puts a leader and the ends around entries and data.
func around(entries, data string) string {
	head := 24 + len(entries) + 1
	return digits(head+len(data)+1, 5) + "nam a22" + digits(head, 5) + "   4500" + entries + "\x1e" + data + "\x1d"
}

func digits(n, width int) string {
	s := strconv.Itoa(n)
	return strings.Repeat("0", max(0, width-len(s))) + s
}

func entryOf(tag string, size, from int) string {
	return tag + digits(size, 4) + digits(from, 5)
}

// alone is a record with one field, whose bytes are at offset 37.
func alone(tag, bytes string) string {
	return around(entryOf(tag, len(bytes), 0), bytes)
}

// changed replaces bytes of s.
func changed(s string, at int, by string) string {
	return s[:at] + by + s[at+len(by):]
}

// cut shortens s for messages.
func cut(s string) string { return s[:min(len(s), 200)] }

func shown(r api.Record) string { return cut(fmt.Sprintf("%q", r)) }

func expectParsed(t *testing.T, s string, want api.Record) {
	t.Helper()
	got, at, e := marc.Parse(s)
	if at != 0 || e != api.OK || !sample.Equal(got, want) {
		t.Errorf("Parse(%q): %s, %d, error %d, want %s", cut(s), shown(got), at, e, shown(want))
	}
}

func expectRefused(t *testing.T, s string, wantAt int, wantE api.Errno) {
	t.Helper()
	got, at, e := marc.Parse(s)
	if at != wantAt || e != wantE || !sample.Equal(got, api.Record{}) {
		t.Errorf("Parse(%q): %s, %d, error %d, want %d, error %d", cut(s), shown(got), at, e, wantAt, wantE)
	}
}

// expectDefined compares Parse of s with the definition.
func expectDefined(t *testing.T, s string) api.Errno {
	t.Helper()
	want, at, e := parseByDefinition(s)
	if e == api.OK {
		expectParsed(t, s, want)
	} else {
		expectRefused(t, s, at, e)
	}
	return e
}

// expectWritten compares Write, and Right, of r with a result; R3: neither changes r.
func expectWritten(t *testing.T, r api.Record, want string, wantE api.Errno) {
	t.Helper()
	given := sample.CopyOf(r)
	if got, e := marc.Write(r); got != want || e != wantE {
		t.Errorf("Write(%s): %q, error %d, want %q, error %d", shown(r), cut(got), e, cut(want), wantE)
	}
	if marc.Right(r) != (wantE == api.OK) {
		t.Errorf("Right(%s): %v", shown(r), marc.Right(r))
	}
	if !sample.Equal(r, given) {
		t.Errorf("Write or Right made %s of %s", shown(r), shown(given))
	}
}

// texts are pieces of fields: characters of each size, at the limits of the sizes, and none.
func texts() []string {
	return []string{"", "a", "Z", " ", "~", "\x7f", "\u0080", "é", "\u07ff", "\u0800", "€", "\ud7ff", "\ue000", "\ufffd", "\uffff", "\U00010000", "😀", "\U0010ffff", "word and word"}
}

// rightRecord makes a record that can be written.
func rightRecord(q *sample.Sequence) api.Record {
	r := api.Record{Kind: byte('a' + q.Below(26)), Level: byte('a' + q.Below(26))}
	for range q.Below(8) {
		r.Fields = append(r.Fields, rightField(q))
	}
	return r
}

func rightField(q *sample.Sequence) api.Field {
	if q.Below(3) == 0 {
		return control("00"+strconv.Itoa(1+q.Below(9)), q.Join(texts(), q.Below(5)))
	}
	f := api.Field{Tag: digits(10+q.Below(990), 3), Ind: string([]byte{byte(32 + q.Below(95)), byte(32 + q.Below(95))})}
	for range 1 + q.Below(4) {
		f.Subs = append(f.Subs, api.Sub{Code: byte(33 + q.Below(94)), Text: q.Join(texts(), q.Below(5))})
	}
	return f
}

// spoil makes one part of a record another one, which may be wrong.
func spoil(q *sample.Sequence, r *api.Record) {
	if len(r.Fields) == 0 || q.Below(8) == 0 {
		r.Kind, r.Level = byte(q.Next()), r.Kind
		return
	}
	f := &r.Fields[q.Below(len(r.Fields))]
	switch q.Below(5) {
	case 0:
		f.Tag = q.Join([]string{"0", "1", "9", "x", "", "é"}, 3)
	case 1:
		f.Ind = q.Join([]string{"0", " ", "", "\x1f", "~", "\x7f"}, 2)
	case 2:
		f.Data = q.Join([]string{"a", "", "\x1e", "\xc3", "\xa9"}, 3)
	case 3:
		f.Subs = f.Subs[:q.Below(len(f.Subs)+1)]
	default:
		f.Subs = append(f.Subs, api.Sub{Code: byte(q.Next()), Text: q.Join([]string{"a", "", "\x1f", "\xc3", "\xa9", "\x00"}, 2)})
	}
}
