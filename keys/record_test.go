package keys_test

import (
	"strings"
	"testing"

	"pinakes/api"
	"pinakes/keys"
	"pinakes/sample"
)

// wall is the record of the examples.
func wall() api.Record {
	return record(
		field("020", "  ", "a0306406152"),
		field("100", "1 ", "aSartre, J."),
		field("245", "14", "aThe Wall /", "band more"),
	)
}

// P5.4, P5.5: the examples of the chapter.
func TestExamplesOfRecords(t *testing.T) {
	expectTitle(t, record(field("245", "14", "aThe Wall /", "band more")), "wall and more")
	expectTitle(t, wall(), "wall and more")
	expectAll(t, wall(), "isbn 9780306406157", "title wall and more / sartre")
}

// P5.4: only the first field 245 counts, also if nothing is in it; other fields do not.
func TestFieldOfTitle(t *testing.T) {
	first, second := field("245", "10", "aFirst"), field("245", "10", "aSecond")
	expectTitle(t, record(first, second), "first")
	expectTitle(t, record(second, first, first), "second")
	expectTitle(t, record(field("100", "1 ", "aX"), field("246", "10", "aX"), first, second), "first")
	for _, empty := range []api.Field{{Tag: "245"}, field("245", "10"), field("245", "10", "cX"), field("245", "10", "a"), field("245", "10", "a/"), {Tag: "245", Data: "X"}} {
		expectTitle(t, record(empty, first), "")
	}
	for _, tag := range []string{"", "24", "2455", "0245", "246", "244", "24x", " 245", "é"} {
		expectTitle(t, record(field(tag, "10", "aX")), "")
		expectTitle(t, record(field(tag, "10", "aX"), first), "first")
	}
	expectTitle(t, record(), "")
	expectTitle(t, api.Record{}, "")
	expectTitle(t, api.Record{Fields: []api.Field{}}, "")
	expectTitle(t, api.Record{Fields: []api.Field{{Tag: "245", Ind: "10", Subs: []api.Sub{}}}}, "")
}

// P5.4: the second byte of Ind says how many bytes are skipped, whatever the first one and the length are.
func TestIndicatorsOfTitle(t *testing.T) {
	const s = "abcdefghijklm"
	for n := range 256 {
		want := s
		if n >= '0' && n <= '9' {
			want = s[n-'0':]
		}
		b := string([]byte{byte(n)})
		for _, ind := range []string{"1" + b, "\xff" + b, "9" + b, " " + b + "7", "0" + b + "99", "\x00" + b + "é"} {
			expectTitle(t, record(field("245", ind, "a"+s)), want)
		}
		expectTitle(t, record(field("245", b, "a"+s)), s)
	}
	for _, ind := range []string{"", "4", "9", "é", "é4", "€4", "  4", "1 4", "1x4", "1-4", "٤4"} {
		expectTitle(t, record(field("245", ind, "a"+s)), s)
	}
}

// P5.4: the bytes are skipped in the text of all subfields, in the middle of a character if need be, and at most all of them.
func TestSkippedPartOfTitle(t *testing.T) {
	for n, want := range []string{"ab e 01a", "b e 01a", "e 01a", "e 01a", "01a", "01a", "01a", "1a", "a", ""} {
		expectTitle(t, record(field("245", "1"+string(rune('0'+n)), "aab", "bé", "a01a")), want)
	}
}

// P5.4: the texts of the subfields a and b, in any order and number, and of no others.
func TestSubfieldsOfTitle(t *testing.T) {
	for _, x := range []struct {
		subs []string
		want string
	}{
		{[]string{"aOne"}, "one"},
		{[]string{"bOne"}, "one"},
		{[]string{"aOne", "bTwo"}, "one two"},
		{[]string{"bOne", "aTwo"}, "one two"},
		{[]string{"aOne", "aTwo", "aThree"}, "one two three"},
		{[]string{"bOne", "bTwo", "aThree", "bFour"}, "one two three four"},
		{[]string{"cX", "aOne", "hX", "nX", "bTwo", "pX"}, "one two"},
		{[]string{"AX", "BX", " X", "0X", "\x00X", "\xffX", "cX"}, ""},
		{[]string{"a", "b", "aOne", "b", "bTwo", "a"}, "one two"},
		{[]string{"a1", "b2", "a0"}, "011 012 010"},
		{[]string{"aOne\u0301", "b\u0301Two"}, "one two"},
		{[]string{"aa\xc3", "b\xa9b"}, "a b"},
		{[]string{"a", "b", "a\u0301"}, ""},
		{nil, ""},
	} {
		expectTitle(t, record(field("245", "10", x.subs...)), x.want)
	}
	// The blanks between texts count as bytes, also those of empty texts.
	expectTitle(t, record(field("245", "13", "aA", "bThe sea")), "he sea")
	expectTitle(t, record(field("245", "12", "a", "b", "aThe sea")), "the sea")
	expectTitle(t, record(field("245", "13", "a", "b", "aThe sea")), "he sea")
	expectTitle(t, record(field("245", "14", "cX", "aThe", "bsea")), "sea")
	expectTitle(t, record(field("245", "19", "aThe", "bsea")), "")
}

// P5.4: each code alone.
func TestCodesOfTitle(t *testing.T) {
	for n := range 256 {
		f := api.Field{Tag: "245", Ind: "10", Subs: []api.Sub{{Code: byte(n), Text: "Sea"}}}
		want := ""
		if n == 'a' || n == 'b' {
			want = "sea"
		}
		expectTitle(t, record(f), want)
	}
}

// P5.5: a key for each right book number in a subfield a of a field 020.
func TestBookNumbersOfRecords(t *testing.T) {
	const one, two, three = "isbn 9780306406157", "isbn 9780804429573", "isbn 9783161484100"
	for _, x := range []struct {
		fields []api.Field
		want   []string
	}{
		{[]api.Field{field("020", "  ", "a0306406152")}, []string{one}},
		{[]api.Field{field("020", "  ", "a0306406152", "a080442957X")}, []string{one, two}},
		{[]api.Field{field("020", "  ", "a9783161484100", "a080442957X", "a0306406152 (pbk.)")}, []string{one, two, three}},
		{[]api.Field{field("020", "  ", "a9783161484100"), field("020", "", "a080442957X"), field("020", "12", "a0306406152")}, []string{one, two, three}},
		// Each once.
		{[]api.Field{field("020", "  ", "a0306406152", "a9780306406157", "a0-306-40615-2")}, []string{one}},
		{[]api.Field{field("020", "  ", "a080442957x"), field("020", "  ", "a0306406152"), field("020", "  ", "a080442957X", "a0306406152")}, []string{one, two}},
		// Wrong ones, other subfields and other fields.
		{[]api.Field{field("020", "  ", "a0306406153", "a", "aX", "a080442957X")}, []string{two}},
		{[]api.Field{field("020", "  ", "z0306406152", "c0306406152", "A0306406152", "b0306406152", "\xff0306406152")}, nil},
		{[]api.Field{field("021", "  ", "a0306406152"), field("20", "  ", "a0306406152"), field("0200", "  ", "a0306406152"), field("02x", "  ", "a0306406152")}, nil},
		{[]api.Field{{Tag: "020", Data: "0306406152"}, {Tag: "020"}, {Tag: "020", Subs: []api.Sub{}}}, nil},
		// Not the texts of two subfields together.
		{[]api.Field{field("020", "  ", "a03064", "a06152")}, nil},
		{nil, nil},
		{[]api.Field{}, nil},
	} {
		expectAll(t, api.Record{Fields: x.fields}, x.want...)
		expectAll(t, api.Record{Fields: append(x.fields[:len(x.fields):len(x.fields)], field("245", "10", "aSea"))}, append(x.want, "title sea / ")...)
	}
}

// P5.5: the first word of the first field 100, and nothing if there is none.
func TestFirstWordOfRecords(t *testing.T) {
	title := field("245", "12", "aA sea")
	for _, x := range []struct {
		fields []api.Field
		word   string
	}{
		{nil, ""},
		{[]api.Field{field("100", "1 ", "aSartre, J.")}, "sartre"},
		{[]api.Field{field("100", "1 ", "aSartre")}, "sartre"},
		{[]api.Field{field("100", "1 ", "a'Łódź'!")}, "lodz"},
		{[]api.Field{field("100", "1 ", "aThe Prince", "aX")}, "the"},
		{[]api.Field{field("100", "14", "aThe Prince")}, "the"},
		{[]api.Field{field("100", "1 ", "a", "a .", "aSecond one")}, "second"},
		{[]api.Field{field("100", "1 ", "bX", "cX", "AX", "aLast")}, "last"},
		{[]api.Field{field("100", "1 ", "a007 agent")}, "007"},
		{[]api.Field{field("100", "1 ", "a1984")}, "1984"},
		{[]api.Field{field("100", "1 ", "aFirst"), field("100", "1 ", "aOther")}, "first"},
		// There is no word.
		{[]api.Field{field("100", "1 ", "a")}, ""},
		{[]api.Field{field("100", "1 ", "a., \u0301")}, ""},
		{[]api.Field{field("100", "1 ", "a日本")}, ""},
		{[]api.Field{field("100", "1 ", "bX")}, ""},
		{[]api.Field{{Tag: "100", Data: "X"}}, ""},
		{[]api.Field{{Tag: "100"}, field("100", "1 ", "aX")}, ""},
		{[]api.Field{field("100", "1 ", "a-"), field("100", "1 ", "aX")}, ""},
		{[]api.Field{field("110", "1 ", "aX"), field("10", "1 ", "aX"), field("1000", "1 ", "aX"), field("700", "1 ", "aX"), field("1x0", "1 ", "aX")}, ""},
	} {
		expectAll(t, record(append([]api.Field{title}, x.fields...)...), "title sea / "+x.word)
		expectAll(t, record(append(x.fields[:len(x.fields):len(x.fields)], title)...), "title sea / "+x.word)
		// Without a title, the word has no key.
		expectAll(t, record(x.fields...))
		expectAll(t, record(append([]api.Field{field("245", "19", "aSea")}, x.fields...)...))
	}
}

// P5.5: without a title, only the book numbers are keys.
func TestRecordsWithoutTitle(t *testing.T) {
	for _, empty := range [][]api.Field{nil, {{Tag: "245"}}, {field("245", "10", "a-")}, {field("245", "13", "aSea")}, {field("245", "10", "cSea"), field("245", "10", "aSea")}} {
		r := wall()
		r.Fields = append(r.Fields[:2], empty...)
		expectAll(t, r, "isbn 9780306406157")
		expectAll(t, record(empty...))
	}
	expectAll(t, api.Record{})
}

// P5.5: the title is in the key as Title returns it.
func TestTitleInKeys(t *testing.T) {
	q := sample.Sequence(66)
	for range 5000 {
		r := record(field("245", "1"+q.Join([]string{"0", "4", "x"}, 1), "a"+someText(&q), "b"+someText(&q)), field("100", "1 ", "aSartre, J."))
		if title := keys.Title(r); title != "" {
			expectAll(t, r, "title "+title+" / sartre")
		} else {
			expectAll(t, r)
		}
	}
}

// P5.4, P5.5, P1: arbitrary records. R3: they are not changed.
func TestArbitraryRecords(t *testing.T) {
	d := readDefinition()
	q := sample.Sequence(67)
	longest, untitled := 0, 0
	for range 20000 {
		r := someRecord(&q)
		want := d.all(r)
		expectTitle(t, r, d.title(r))
		expectAll(t, r, want...)
		longest = max(longest, len(want))
		if d.title(r) == "" && len(want) > 0 {
			untitled++
		}
	}
	if longest < 5 || untitled < 500 {
		t.Errorf("at most %d keys, and %d records without a title have some", longest, untitled)
	}
}

// P1: large records.
func TestLargeRecords(t *testing.T) {
	const size = 1 << 17
	r := record(field("245", "10", "aSea"))
	for range size {
		r.Fields = append(r.Fields, field("020", "  ", "a080442957X", "a0306406152"), field("100", "1 ", "aSartre"))
		r.Fields[0].Subs = append(r.Fields[0].Subs, api.Sub{Code: 'b', Text: "1"})
	}
	title := "sea" + strings.Repeat(" 011", size)
	expectTitle(t, r, title)
	expectAll(t, r, "isbn 9780306406157", "isbn 9780804429573", "title "+title+" / sartre")
}
