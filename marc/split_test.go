package marc_test

import (
	"slices"
	"strings"
	"testing"
	"unsafe"

	"pinakes/api"
	"pinakes/marc"
	"pinakes/sample"
)

const (
	empty    = "00026nam a2200025   4500\x1e\x1d"
	nonsense = "00026 twenty-six bytes, no"
)

func expectSplit(t *testing.T, s string, want []string, wantAt int, wantE api.Errno) {
	t.Helper()
	got, at, e := marc.Split(s)
	if !slices.Equal(got, want) || at != wantAt || e != wantE {
		t.Errorf("Split(%q): %.200q, %d, error %d, want %.200q, %d, error %d", cut(s), got, at, e, want, wantAt, wantE)
	}
}

// P3.4: records one after the other; what is in them plays no part.
func TestSplitOfRecords(t *testing.T) {
	for _, l := range [][]string{
		nil,
		{empty},
		{example},
		{example, emma, example, empty, empty},
		{nonsense},
		{nonsense, example, nonsense},
		{"00027nam a2200025   4500\x1e\x1d\x1d"},
		{"00030" + strings.Repeat("\xff", 25), empty},
		{"99999" + strings.Repeat("0", 99994), empty},
	} {
		expectSplit(t, strings.Join(l, ""), l, 0, api.OK)
	}
}

// P3.4: the errors, with the records so far and the offset at which the next one begins.
func TestErrorsOfSplit(t *testing.T) {
	for _, c := range []struct {
		rest string
		want api.Errno
	}{
		// Less than 5 bytes are left.
		{"0", api.ErrShort},
		{"0003", api.ErrShort},
		{"x", api.ErrShort},
		{"0000", api.ErrShort},
		{"\x1d", api.ErrShort},
		// No digits, or less than 26.
		{"0003x", api.ErrLeader},
		{"x0030", api.ErrLeader},
		{" 0030" + empty, api.ErrLeader},
		{"+0030" + empty, api.ErrLeader},
		{"000:0" + empty, api.ErrLeader},
		{"0/026" + empty, api.ErrLeader},
		{"00000", api.ErrLeader},
		{"00005", api.ErrLeader},
		{"00025", api.ErrLeader},
		{"00025" + strings.Repeat("x", 20), api.ErrLeader},
		{"00025" + empty, api.ErrLeader},
		{"0000026", api.ErrLeader},
		// Less than n are left.
		{"00026", api.ErrShort},
		{"99999", api.ErrShort},
		{empty[:25], api.ErrShort},
		{"99999" + strings.Repeat("0", 99993), api.ErrShort},
	} {
		expectSplit(t, c.rest, nil, 0, c.want)
		expectSplit(t, example+c.rest, []string{example}, 58, c.want)
		expectSplit(t, empty+example+nonsense+c.rest, []string{empty, example, nonsense}, 110, c.want)
	}
	// The errors of a record are none of Split's, but its length must be there.
	expectSplit(t, empty+"\x1d"+example, []string{empty}, 26, api.ErrLeader)
	expectSplit(t, changed(example, 3, "60")+empty[:1]+example, []string{changed(example, 3, "60") + "00"}, 60, api.ErrLeader)
}

// P3.4: beginnings of records, and joined pieces, as the definition says.
func TestSplitFollowsTheDefinition(t *testing.T) {
	check := func(s string) {
		t.Helper()
		l, at, e := splitByDefinition(s)
		expectSplit(t, s, l, at, e)
	}
	all := example + empty + emma
	for i := range all {
		check(all[:i])
		check(all[i:])
	}
	q := sample.Sequence(42)
	pieces := []string{example, empty, emma, nonsense, "0", "00", "2", "7", "x", "00031", "00028"}
	for range 5000 {
		check(q.Join(pieces, q.Below(20)))
	}
	for s := range sample.Texts(sample.Singles("023x"), 6) {
		check(s)
		check(s + empty)
	}
}

// P3.5: Split of records that Write has returned, joined, returns them.
func TestSplitOfWrittenRecords(t *testing.T) {
	q := sample.Sequence(43)
	for range 300 {
		var l []string
		for range q.Below(10) {
			s, e := marc.Write(rightRecord(&q))
			if e != api.OK {
				t.Fatal(e)
			}
			l = append(l, s)
		}
		expectSplit(t, strings.Join(l, ""), l, 0, api.OK)
	}
}

// P1: many records, and arbitrary bytes. R3: the records are new memory.
func TestSplitOfLargeStrings(t *testing.T) {
	expectSplit(t, strings.Repeat(empty, 50000)+"0", slices.Repeat([]string{empty}, 50000), 26*50000, api.ErrShort)
	expectSplit(t, strings.Repeat("\xff", 1<<20), nil, 0, api.ErrLeader)
	expectSplit(t, strings.Repeat("0", 1<<20), nil, 0, api.ErrLeader)
	l, _, _ := marc.Split(empty)
	if s := empty; len(l) != 1 || unsafe.StringData(l[0]) == unsafe.StringData(s) {
		t.Error("Split returns its argument")
	}
}
