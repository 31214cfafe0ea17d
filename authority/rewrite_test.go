package authority_test

import (
	"slices"
	"strings"
	"testing"

	"pinakes/api"
	"pinakes/authority"
	"pinakes/sample"
)

// twain returns a file with headings 2, 3 and 10, and 1, which is merged into 2; 2 is split to 3 for songs.
func twain(t *testing.T) (*authority.File, definedState) {
	t.Helper()
	feeds := numbered(created(1, "Clemens, Samuel"), created(2, "Twain, Mark"), alias(2, "Twain, M."), merged(1, 2), created(3, "Twain, Mark (music)"), split(2, 3, "Songs"), created(10, "Sea /"))
	return fileOf(t, feeds), stateByDefinition(feeds)
}

// expectSubs rewrites a field with each tag that has headings, in a record with a title.
func expectSubs(t *testing.T, title string, subs, want []string) {
	t.Helper()
	f, s := twain(t)
	for _, tag := range []string{"100", "110", "600", "650", "700"} {
		r, changed := record(title, field(tag, "1 ", subs...)), record(title, field(tag, "1 ", want...))
		if by := s.rewrite(r); !sample.Equal(by, changed) {
			t.Errorf("by the definition, Rewrite of %s: %s, want %s", shown(r), shown(by), shown(changed))
		}
		expectRewrite(t, f, r, changed)
	}
}

// expectSame rewrites records, which stay as they are.
func expectSame(t *testing.T, records ...api.Record) {
	t.Helper()
	f, s := twain(t)
	for _, r := range records {
		if by := s.rewrite(r); !sample.Equal(by, r) {
			t.Errorf("by the definition, Rewrite of %s: %s", shown(r), shown(by))
		}
		expectRewrite(t, f, r, r)
	}
}

// P8.5: fields without subfields, with several ones, and in which one of the two is missing.
func TestSubfieldsOfHeadings(t *testing.T) {
	type subs = []string
	for _, l := range [][2]subs{
		{nil, nil},
		{subs{"xy"}, subs{"xy"}},
		{subs{"atwain m"}, subs{"aTwain, Mark", "02"}},
		{subs{"02"}, subs{"aTwain, Mark", "02"}},
		{subs{"atwain m", "02"}, subs{"aTwain, Mark", "02"}},
		{subs{"02", "aTwain"}, subs{"02", "aTwain, Mark"}},
		{subs{"d1835", "atwain mark", "xy"}, subs{"d1835", "aTwain, Mark", "xy", "02"}},
		{subs{"d1835", "01", "xy"}, subs{"aTwain, Mark", "d1835", "02", "xy"}},
		{subs{"atwain m", "aSea", "x", "aClemens"}, subs{"aTwain, Mark", "aSea", "x", "aClemens", "02"}},
		{subs{"aSea", "atwain m"}, subs{"aSea /", "atwain m", "010"}},
		{subs{"anobody", "atwain m"}, subs{"anobody", "atwain m"}},
		{subs{"01", "010", "anobody"}, subs{"02", "010", "aTwain, Mark"}},
		{subs{"010", "01", "02"}, subs{"aSea /", "010", "01", "02"}},
		{subs{"011", "010", "anobody"}, subs{"011", "010", "anobody"}},
		{subs{"011", "010", "asea"}, subs{"010", "010", "aSea /"}},
		{subs{"a"}, subs{"a"}},
		{subs{"a", "asea"}, subs{"a", "asea"}},
		{subs{"a", "010"}, subs{"aSea /", "010"}},
		{subs{"Asea"}, subs{"Asea"}},
		{subs{"bsea"}, subs{"bsea"}},
		{subs{"aSea /", "010"}, subs{"aSea /", "010"}},
		{subs{"0"}, subs{"0"}},
	} {
		expectSubs(t, "Tom Sawyer", l[0], l[1])
	}
}

// P8.5: the number counts if there is such a heading, and otherwise the name.
func TestNumbersOfHeadings(t *testing.T) {
	for _, number := range []string{"10", "1", "2", "3"} {
		want := map[string][]string{"10": {"aSea /", "010"}, "1": {"aTwain, Mark", "02"}, "2": {"aTwain, Mark", "02"}, "3": {"aTwain, Mark (music)", "03"}}[number]
		for _, name := range []string{"nobody", "sea", "twain m", "...", ""} {
			expectSubs(t, "Tom Sawyer", []string{"a" + name, "0" + number}, want)
		}
	}
	others := []string{"", "0", "-1", "+1", "01", "001", "1.", " 1", "1 ", "1\x00", "0x1", "1e0", "1_0", "１", "4", "11", "-0", "--1", "x", "a", "\xff", "4294967297", "4294967298",
		"9223372036854775807", "9223372036854775808", "18446744073709551617", "18446744073709551618", "-18446744073709551615", strings.Repeat("9", 5000), strings.Repeat("0", 5000) + "1"}
	for _, number := range others {
		expectSubs(t, "Tom Sawyer", []string{"asea", "0" + number}, []string{"aSea /", "010"})
		expectSubs(t, "Tom Sawyer", []string{"anobody", "0" + number}, []string{"anobody", "0" + number})
		expectSubs(t, "Tom Sawyer", []string{"0" + number}, []string{"0" + number})
	}
}

// P8.5: a heading at the end of the range, and others whose numbers have the same low bits.
func TestGreatHeadings(t *testing.T) {
	const greatest = "9223372036854775807"
	f := fileOf(t, numbered(created(1<<63-1, "Last"), created(1<<32+1, "Low"), created(5, "Five"), merged(5, 1<<63-1)))
	expectRewrite(t, f, record("x", field("650", "  ", "0"+greatest)), record("x", field("650", "  ", "aLast", "0"+greatest)))
	expectRewrite(t, f, record("x", field("650", "  ", "05", "aFive")), record("x", field("650", "  ", "0"+greatest, "aLast")))
	expectRewrite(t, f, record("x", field("650", "  ", "alow")), record("x", field("650", "  ", "aLow", "04294967297")))
	for _, number := range []string{"1", "-1", "18446744073709551615", "9223372036854775808", "09223372036854775807", "-9223372036854775809"} {
		expectRewrite(t, f, record("x", field("650", "  ", "0"+number)), record("x", field("650", "  ", "0"+number)))
	}
}

// P8.5: the title decides, as it is in the subfields a and b of the first field 245.
func TestTitlesOfRecords(t *testing.T) {
	expectSubs(t, "Old songs", []string{"aTwain, M."}, []string{"aTwain, Mark (music)", "03"})
	expectSubs(t, "Old songs", []string{"01"}, []string{"aTwain, Mark (music)", "03"})
	expectSubs(t, "Old songs", []string{"010"}, []string{"aSea /", "010"})
	f, s := twain(t)
	heading := field("100", "1 ", "01")
	expect := func(isMusic bool, fields ...api.Field) {
		t.Helper()
		changed := field("100", "1 ", "aTwain, Mark", "02")
		if isMusic {
			changed = field("100", "1 ", "aTwain, Mark (music)", "03")
		}
		for _, first := range []bool{true, false} {
			r, want := api.Record{Kind: 'c', Fields: append(slices.Clone(fields), heading)}, api.Record{Kind: 'c', Fields: append(slices.Clone(fields), changed)}
			if first {
				r.Fields, want.Fields = append([]api.Field{heading}, fields...), append([]api.Field{changed}, fields...)
			}
			if by := s.rewrite(r); !sample.Equal(by, want) {
				t.Errorf("by the definition, Rewrite of %s: %s, want %s", shown(r), shown(by), shown(want))
			}
			expectRewrite(t, f, r, want)
		}
	}
	expect(false)
	expect(true, field("245", "00", "aSongs"))
	expect(true, field("245", "00", "bSongs"))
	expect(true, field("245", "19", "aTom", "xy", "bSawyer", "aand songs"))
	expect(false, field("245", "00", "cSongs", "xsongs", "ASongs", "Bsongs", "0songs"))
	expect(false, field("245", "00", "aso", "bngs"))
	expect(false, field("245", "00", "asong", "as"))
	expect(false, api.Field{Tag: "245", Data: "Songs"})
	expect(false, field("245", "00"), field("245", "00", "aSongs"))
	expect(false, field("245", "00", "aTom"), field("245", "00", "aSongs"))
	expect(true, field("245", "00", "aSongs"), field("245", "00", "aTom"))
	expect(false, field("246", "00", "aSongs"), field("24", "00", "aSongs"), field("2450", "00", "aSongs"))
	expect(true, field("245", "06", "aSongs of old")) // nothing is skipped
}

// P8.5: other tags stay as they are.
func TestOtherTags(t *testing.T) {
	for n := range 1000 {
		tag := string([]byte{byte('0' + n/100), byte('0' + n/10%10), byte('0' + n%10)})
		if !tagsWithHeadings.MatchString(tag) {
			expectSame(t, api.Record{Fields: []api.Field{field(tag, "1 ", "atwain m", "01")}})
		}
	}
	for _, tag := range []string{"", "1", "10", "1000", " 100", "100 ", "65", "6500", "65０", "７00", "abc", "\xff"} {
		expectSame(t, api.Record{Fields: []api.Field{field(tag, "1 ", "atwain m", "01")}})
	}
}

// P8.5: all else stays: kind and level, the order of the fields, tags, indicators, data and other subfields.
func TestAllElseStays(t *testing.T) {
	expectSame(t, api.Record{}, api.Record{Kind: 'a', Level: 'm'}, api.Record{Kind: 0xff, Fields: []api.Field{{}}}, api.Record{Fields: []api.Field{{Tag: "100"}, {Tag: "700", Data: "twain m"}}})
	f, _ := twain(t)
	r := api.Record{Kind: 0xff, Level: 1, Fields: []api.Field{
		field("700", "", "asea"),
		control("001", "atwain m"),
		field("651", "  ", "atwain m", "01"),
		{Tag: "100", Ind: "123", Data: "data", Subs: []api.Sub{{Code: 0, Text: "x"}, {Code: 'a', Text: "SEA"}, {Code: 0xff}}},
		field("245", "10", "atwain m", "01"),
		field("100", "1 ", "anobody", "04"),
		field("700", "", "asea"),
		field("020", "  ", "a0306406152"),
	}}
	want := sample.CopyOf(r)
	want.Fields[0] = field("700", "", "aSea /", "010")
	want.Fields[3].Subs = []api.Sub{{Code: 0, Text: "x"}, {Code: 'a', Text: "Sea /"}, {Code: 0xff}, {Code: '0', Text: "10"}}
	want.Fields[6] = field("700", "", "aSea /", "010")
	expectRewrite(t, f, r, want)
}

// R3: fields that share memory with each other have copies that do not, and what lies behind a list in memory stays.
func TestRewriteOfSharedMemory(t *testing.T) {
	f, _ := twain(t)
	subs := []api.Sub{{Code: 'a', Text: "sea"}, {Code: 'x', Text: "y"}, {Code: 'a', Text: "twain m"}}
	fields := []api.Field{{Tag: "650", Subs: subs[:1]}, {Tag: "651", Subs: subs[:2]}, {Tag: "650", Subs: subs[:2]}, {Tag: "100", Subs: subs}, {Tag: "700", Subs: subs[2:]}, {Tag: "999"}}
	r := api.Record{Fields: fields[:5]}
	want := api.Record{Fields: []api.Field{field("650", "", "aSea /", "010"), field("651", "", "asea", "xy"), field("650", "", "aSea /", "xy", "010"), field("100", "", "aSea /", "xy", "atwain m", "010"), field("700", "", "aTwain, Mark", "02")}}
	expectRewrite(t, f, r, want)
	if fields[5].Tag != "999" || subs[1].Text != "y" || subs[2].Text != "twain m" {
		t.Error("Rewrite changed the memory behind a list")
	}
}

// P8.5: a file without feeds changes nothing; one whose headings change rewrites accordingly.
func TestRewriteAfterFurtherFeeds(t *testing.T) {
	f := authority.New()
	r := record("Old songs", field("650", "  ", "aSea"), field("700", "1 ", "02", "aTwo"))
	expectRewrite(t, f, r, r)
	feeds := numbered(created(1, "sea."), created(2, "Two"), split(1, 2, "songs"), renamed(2, "Zwei"), created(3, "Drei"), merged(2, 3))
	wants := [][]api.Field{
		{field("650", "  ", "asea.", "01"), field("700", "1 ", "02", "aTwo")},
		{field("650", "  ", "asea.", "01"), field("700", "1 ", "02", "aTwo")},
		{field("650", "  ", "aTwo", "02"), field("700", "1 ", "02", "aTwo")},
		{field("650", "  ", "aZwei", "02"), field("700", "1 ", "02", "aZwei")},
		{field("650", "  ", "aZwei", "02"), field("700", "1 ", "02", "aZwei")},
		{field("650", "  ", "aDrei", "03"), field("700", "1 ", "03", "aDrei")},
	}
	for i, x := range feeds {
		expectTake(t, f, x, api.OK)
		expectRewrite(t, f, r, record("Old songs", wants[i]...))
	}
}

// P1: large records, and large texts.
func TestRewriteOfLargeRecords(t *testing.T) {
	f, _ := twain(t)
	var fields, changed []api.Field
	for range 20000 {
		fields = append(fields, field("650", "  ", "atwain m"), field("650", "  ", "anobody", "077"))
		changed = append(changed, field("650", "  ", "aTwain, Mark (music)", "03"), field("650", "  ", "anobody", "077"))
	}
	title := strings.Repeat("of the ", 100000) + "songs"
	expectRewrite(t, f, record(title, fields...), record(title, changed...))
	long := strings.Repeat("twain ", 100000)
	expectRewrite(t, f, record("x", field("650", "  ", "a"+long, "0"+long)), record("x", field("650", "  ", "a"+long, "0"+long)))
	many, last := field("650", "  "), field("650", "  ", "aSea /")
	for range 100000 {
		many.Subs, last.Subs = append(many.Subs, api.Sub{Code: 'x'}), append(last.Subs, api.Sub{Code: 'x'})
	}
	many.Subs, last.Subs = append(many.Subs, api.Sub{Code: '0', Text: "10"}), append(last.Subs, api.Sub{Code: '0', Text: "10"})
	expectRewrite(t, f, record("x", many), record("x", last))
}
