package marc_test

import (
	"strings"
	"testing"

	"pinakes/api"
	"pinakes/marc"
	"pinakes/sample"
)

// P3.1, P3.2: the example of the chapter, and other records byte for byte.
func TestWriteOfKnownRecords(t *testing.T) {
	expectWritten(t, exampleRecord(), example, api.OK)
	expectWritten(t, emmaRecord(), emma, api.OK)
	expectWritten(t, record(), "00026nam a2200025   4500\x1e\x1d", api.OK)
	expectWritten(t, api.Record{Kind: 'z', Level: 'a', Fields: []api.Field{}}, "00026nza a2200025   4500\x1e\x1d", api.OK)
	expectWritten(t, record(control("009", "")), "00039nam a2200037   4500009000100000\x1e\x1e\x1d", api.OK)
	expectWritten(t, record(field("999", "~ ", "~")), "00043nam a2200037   4500999000500000\x1e~ \x1f~\x1e\x1d", api.OK)
}

// P3.1, R1: nil and empty lists do not differ.
func TestEmptyListsOfWrite(t *testing.T) {
	expectWritten(t, record([]api.Field{}...), empty, api.OK)
	want, _ := marc.Write(record(control("001", "x")))
	expectWritten(t, record(api.Field{Tag: "001", Data: "x", Subs: []api.Sub{}}), want, api.OK)
	expectWritten(t, record(api.Field{Tag: "245", Ind: "10", Subs: []api.Sub{}}), "", api.ErrField)
	expectWritten(t, record(api.Field{Tag: "245", Ind: "10", Subs: nil}), "", api.ErrField)
}

// P3.1: Kind and Level are letters.
func TestKindAndLevelOfWrite(t *testing.T) {
	for b := range 256 {
		want := api.ErrLeader
		if b >= 'a' && b <= 'z' {
			want = api.OK
		}
		for _, r := range []api.Record{{Kind: byte(b), Level: 'm'}, {Kind: 'a', Level: byte(b)}} {
			if _, e := marc.Write(r); e != want || marc.Right(r) != (want == api.OK) {
				t.Errorf("Write of %v: error %d, want %d", r, e, want)
			}
		}
	}
}

// P3.1: a tag has three digits, and is not 000.
func TestTagsOfWrite(t *testing.T) {
	for s := range sample.Texts(sample.Singles("0159/:x \xff"), 4) {
		r := record(field(s, "  ", "a"))
		if strings.HasPrefix(s, "00") {
			r = record(control(s, ""))
		}
		want, wantE := writeByDefinition(r)
		if !isTag(s) && wantE != api.ErrEntry {
			t.Errorf("tag %q: error %d", s, wantE)
		}
		expectWritten(t, r, want, wantE)
	}
	expectWritten(t, record(control("٠٠١", "x")), "", api.ErrEntry)
	expectWritten(t, record(control("000", "x")), "", api.ErrEntry)
}

// P3.1: fields that are not right.
func TestFieldsOfWrite(t *testing.T) {
	for _, f := range []api.Field{
		{Tag: "001", Ind: "10"},
		{Tag: "001", Ind: " "},
		{Tag: "001", Subs: []api.Sub{{Code: 'a'}}},
		{Tag: "009", Data: "x", Ind: "  ", Subs: []api.Sub{{Code: 'a', Text: "x"}}},
		control("001", "\xff"),
		control("001", "a\x1f"),
		control("001", "a\x1e"),
		control("001", "\n"),
		control("005", "\xc3"),
		{Tag: "245"},
		{Tag: "245", Ind: "10"},
		{Tag: "245", Ind: "10", Subs: []api.Sub{}},
		{Tag: "245", Data: "x"},
		{Tag: "010", Data: "x", Ind: "10", Subs: []api.Sub{{Code: 'a', Text: "x"}}},
		field("245", "", "aT"),
		field("245", "1", "aT"),
		field("245", "100", "aT"),
		field("245", "é", "aT"),
		field("245", "1\x7f", "aT"),
		field("245", "\x1f0", "aT"),
		field("245", "10", " T"),
		field("245", "10", "\x7fT"),
		field("245", "10", "\x1fT"),
		field("245", "10", "\xc3"),
		field("245", "10", "\xe9T"),
		field("245", "10", "\x00"),
		field("245", "10", "aT", "b\x1d"),
		field("245", "10", "aT", "b\xed\xa0\x80", "cT"),
		field("245", "10", "aT", " T"),
	} {
		expectWritten(t, record(f), "", api.ErrField)
		expectWritten(t, record(control("001", "x"), f, field("300", "  ", "a")), "", api.ErrField)
	}
}

// P3.1: what is a text: at the limits of UTF-8, and bytes less than 32.
func TestTextsOfWrite(t *testing.T) {
	for _, text := range texts() {
		if _, e := marc.Write(record(control("001", text), field("245", "10", "a"+text))); e != api.OK {
			t.Errorf("text %q: error %d", text, e)
		}
	}
	for _, text := range []string{"\x00", "\t", "\x1d", "\x1e", "\x1f", "\x80", "\xbf", "\xc0\x80", "\xc1\xbf", "\xc3", "\xe0\x80\x80", "\xe0\x9f\xbf", "\xe2\x82", "\xed\xa0\x80", "\xed\xbf\xbf",
		"\xf0\x80\x80\x80", "\xf0\x8f\xbf\xbf", "\xf0\x9f\x98", "\xf4\x90\x80\x80", "\xf5\x80\x80\x80", "\xf8\x88\x80\x80\x80", "\xfe", "\xff"} {
		for _, s := range []string{text, text + "a", "a" + text, "\ufffd" + text + "é"} {
			expectWritten(t, record(control("001", s)), "", api.ErrField)
			expectWritten(t, record(field("245", "10", "a"+s)), "", api.ErrField)
		}
	}
}

// P3.1: for the first field that is not right, its error; the leader before it, and the limits behind all fields.
func TestOrderOfTheErrorsOfWrite(t *testing.T) {
	noTag, noField, large := control("x", ""), control("001", "\n"), control("001", strings.Repeat("x", 9999))
	expectWritten(t, record(noTag, noField), "", api.ErrEntry)
	expectWritten(t, record(noField, noTag), "", api.ErrField)
	expectWritten(t, record(control("0011", "\n")), "", api.ErrEntry)
	expectWritten(t, api.Record{Fields: []api.Field{noTag}}, "", api.ErrLeader)
	expectWritten(t, api.Record{Kind: 'a', Fields: []api.Field{noField}}, "", api.ErrLeader)
	expectWritten(t, api.Record{Level: 'a', Fields: []api.Field{large}}, "", api.ErrLeader)
	expectWritten(t, record(large, noTag), "", api.ErrEntry)
	expectWritten(t, record(large, noField), "", api.ErrField)
	expectWritten(t, record(append(many(control("001", ""), 1000), noField)...), "", api.ErrField)
	expectWritten(t, record(append(many(control("001", strings.Repeat("x", 9998)), 20), noTag)...), "", api.ErrEntry)
	expectWritten(t, record(large, control("001", "")), "", api.ErrMany)
}

// P3.1: the limits, and one beyond.
func TestLimitsOfWrite(t *testing.T) {
	expectFits := func(fits bool, fields ...api.Field) {
		t.Helper()
		want, wantE := writeByDefinition(record(fields...))
		if fits != (wantE == api.OK) || !fits && wantE != api.ErrMany {
			t.Fatalf("%d fields: error %d", len(fields), wantE)
		}
		expectWritten(t, record(fields...), want, wantE)
		if fits {
			expectParsed(t, want, record(fields...))
		}
	}
	small := field("500", "  ", "a")
	expectFits(true, many(small, 999)...)
	expectFits(false, many(small, 1000)...)

	text := strings.Repeat("x", 9999)
	expectFits(true, control("001", text[:9998]))
	expectFits(false, control("001", text[:9999]))
	expectFits(true, field("245", "10", "a"+text[:9994]))
	expectFits(false, field("245", "10", "a"+text[:9995]))
	expectFits(true, field("245", "10", "a", "b"+text[:9992]))
	expectFits(false, field("245", "10", "a", "b"+text[:9993]))
	expectFits(false, small, control("001", text), small)

	// The leader and the ends have 26 bytes; nine fields of 9999 bytes have 90099 with their entries; one of n has 12 + n + 1.
	nine := many(control("001", text[:9998]), 9)
	expectFits(true, append(nine, control("001", text[:99999-26-90099-13]))...)
	expectFits(false, append(nine, control("001", text[:99999-26-90099-12]))...)
	expectFits(false, many(control("001", text[:9998]), 999)...)
}

// P3.1, P3.2: records that are right, and records with some parts spoiled, as the definition says.
func TestWriteFollowsTheDefinition(t *testing.T) {
	q := sample.Sequence(41)
	seen := map[api.Errno]int{}
	for range 20000 {
		r := rightRecord(&q)
		for range q.Below(3) {
			spoil(&q, &r)
		}
		want, wantE := writeByDefinition(r)
		expectWritten(t, r, want, wantE)
		seen[wantE]++
	}
	for _, e := range []api.Errno{api.OK, api.ErrLeader, api.ErrEntry, api.ErrField} {
		if seen[e] < 500 {
			t.Errorf("error %d in %d records only", e, seen[e])
		}
	}
}

// P1: arbitrary and large records.
func TestWriteOfHostileRecords(t *testing.T) {
	huge := strings.Repeat("é", 1<<20)
	for _, r := range []api.Record{
		{},
		record(api.Field{}),
		record(make([]api.Field, 1<<16)...),
		record(api.Field{Tag: huge, Ind: huge, Data: huge, Subs: []api.Sub{{}}}),
		record(api.Field{Tag: "245", Ind: huge, Subs: []api.Sub{{Code: 'a'}}}),
	} {
		_, wantE := writeByDefinition(r)
		expectWritten(t, r, "", wantE)
	}
	expectWritten(t, record(control("001", huge)), "", api.ErrMany)
	expectWritten(t, record(many(field("245", "10", "a"+huge), 50)...), "", api.ErrMany)
	expectWritten(t, record(api.Field{Tag: "245", Ind: "10", Subs: make([]api.Sub, 1<<16)}), "", api.ErrField)
}
