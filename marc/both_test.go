package marc_test

import (
	"testing"
	"unsafe"

	"pinakes/api"
	"pinakes/marc"
	"pinakes/sample"
)

// P3.5: Parse of Write(r) is r.
func TestParseOfWrite(t *testing.T) {
	q := sample.Sequence(46)
	for range 5000 {
		r := rightRecord(&q)
		s, e := marc.Write(r)
		if e != api.OK {
			t.Fatalf("Write(%v): error %d", r, e)
		}
		expectParsed(t, s, r)
	}
}

// P3.5: a record that Parse returns is accepted by Write, which makes it no longer.
func TestWriteOfParse(t *testing.T) {
	q := sample.Sequence(47)
	shorter, parsed := 0, 0
	for range 50000 {
		s := shuffled(&q)
		r, _, e := marc.Parse(s)
		if e != api.OK {
			continue
		}
		parsed++
		again, e := marc.Write(r)
		if e != api.OK || len(again) > len(s) || !marc.Right(r) {
			t.Fatalf("Write of Parse of %q: %q, error %d", s, again, e)
		}
		if len(again) < len(s) {
			shorter++
		}
		expectParsed(t, again, r)
	}
	if parsed < 1000 || shorter < 1000 || shorter == parsed {
		t.Errorf("%d records could be read, of which %d had gaps", parsed, shorter)
	}
}

// shuffled makes bytes whose entries are about arbitrary parts of the data.
func shuffled(q *sample.Sequence) string {
	tags := []string{"001", "100", "245"}
	data := q.Join([]string{"a\x1e", "\x1e", "10\x1fab\x1e", "\x1fa", "é\x1e"}, 1+q.Below(6))
	entries := ""
	for range q.Below(4) {
		from := q.Below(len(data))
		entries += entryOf(tags[q.Below(3)], 1+q.Below(len(data)-from), from)
	}
	return around(entries, data)
}

// R3: no result shares memory with an argument, strings included.
func TestResultsAreNew(t *testing.T) {
	s := example
	r, _, _ := marc.Parse(s)
	first, last := uintptr(unsafe.Pointer(unsafe.StringData(s))), uintptr(unsafe.Pointer(unsafe.StringData(s)))+uintptr(len(s))
	for _, part := range []string{r.Fields[0].Tag, r.Fields[0].Data, r.Fields[1].Tag, r.Fields[1].Ind, r.Fields[1].Subs[0].Text} {
		if at := uintptr(unsafe.Pointer(unsafe.StringData(part))); at >= first && at < last {
			t.Errorf("%q is a part of the argument", part)
		}
	}
	for range 3 {
		if again, e := marc.Write(r); again != s || e != api.OK {
			t.Errorf("Write differs from call to call: %q, error %d", again, e)
		}
	}
}
