package marc_test

import (
	"slices"
	"strings"
	"testing"

	"pinakes/api"
	"pinakes/marc"
	"pinakes/sample"
)

// P3.3: the examples of the chapter, and other records.
func TestParseOfKnownRecords(t *testing.T) {
	expectParsed(t, example, exampleRecord())
	expectParsed(t, emma, emmaRecord())
	expectParsed(t, empty, record())
	expectParsed(t, alone("001", "\x1e"), record(control("001", "")))
	expectParsed(t, alone("010", "  \x1f!\x1e"), record(field("010", "  ", "!")))
	expectParsed(t, alone("999", "~ \x1f~~\x1f~\x1f1~1\x1e"), record(field("999", "~ ", "~~", "~", "1~1")))
	for _, text := range texts() {
		expectParsed(t, alone("005", text+"\x1e"), record(control("005", text)))
		expectParsed(t, alone("245", "10\x1fa"+text+"\x1fb"+text+"\x1e"), record(field("245", "10", "a"+text, "b"+text)))
	}
}

// P3.3, 1 and 2: the length.
func TestLengthInParse(t *testing.T) {
	for i := range 24 {
		expectRefused(t, example[:i], i, api.ErrShort)
		expectRefused(t, strings.Repeat("x", i), i, api.ErrShort)
	}
	for i := 24; i < 58; i++ {
		expectRefused(t, example[:i], i, api.ErrShort)
	}
	expectRefused(t, example+"x", 0, api.ErrLeader)
	expectRefused(t, example+example, 0, api.ErrLeader)
	expectRefused(t, strings.Repeat("x", 24), 0, api.ErrLeader)
	expectRefused(t, "00024"+empty[5:24], 12, api.ErrLeader)
	expectRefused(t, "00025"+empty[5:24]+"\x1d", 12, api.ErrLeader)
	expectRefused(t, "99999"+example[5:], 58, api.ErrShort)
	expectRefused(t, "00059"+example[5:], 58, api.ErrShort)
	expectRefused(t, "00057"+example[5:], 0, api.ErrLeader)
	expectRefused(t, "00000"+example[5:], 0, api.ErrLeader)
	for at := range 5 {
		for _, b := range []string{"x", " ", "/", ":", "\xff", "+", "-"} {
			expectRefused(t, changed(example, at, b), 0, api.ErrLeader)
		}
	}
}

// P3.3, 3: the letters and signs of the leader, and the bytes that play no part (P3.5).
func TestLeaderInParse(t *testing.T) {
	for b := range 256 {
		by := string([]byte{byte(b)})
		for _, at := range []int{5, 8, 17, 18, 19} {
			expectParsed(t, changed(example, at, by), exampleRecord())
		}
		for _, at := range []int{6, 7} {
			if b < 'a' || b > 'z' {
				expectRefused(t, changed(example, at, by), at, api.ErrLeader)
			}
		}
		for at, want := range map[int]int{9: 9, 10: 10, 11: 10, 20: 20, 21: 20, 22: 20, 23: 20} {
			if by != example[at:at+1] {
				expectRefused(t, changed(example, at, by), want, api.ErrLeader)
			}
		}
	}
	r := exampleRecord()
	r.Kind, r.Level = 'q', 'z'
	expectParsed(t, changed(example, 6, "qz"), r)
}

// P3.3, 4: the length of the leader and the directory.
func TestHeadInParse(t *testing.T) {
	for head := range 100000 {
		if head != 49 {
			expectRefused(t, changed(example, 12, digits(head, 5)), 12, api.ErrLeader)
		}
	}
	for at := 12; at < 17; at++ {
		for _, b := range []string{"x", " ", "/", ":", "\xff"} {
			expectRefused(t, changed(example, at, b), 12, api.ErrLeader)
		}
	}
	expectRefused(t, changed(example, 48, "0"), 12, api.ErrLeader)
	expectRefused(t, changed(example, 48, "\x1d"), 12, api.ErrLeader)
	expectRefused(t, changed(empty, 24, "x"), 12, api.ErrLeader)
	// The head may end right before the last byte, but not with it.
	expectParsed(t, empty, record())
	expectRefused(t, "00025nam a2200025   4500\x1e", 12, api.ErrLeader)
	expectRefused(t, "00037nam a2200037   4500"+entryOf("001", 1, 0)+"\x1e", 12, api.ErrLeader)
	expectRefused(t, "00038nam a2200037   4500"+entryOf("001", 1, 0)+"\x1e\x1d", 24, api.ErrEntry)
}

// P3.3, 4: the number of entries, at the limit and one beyond, and before the faults of entries and fields.
func TestManyEntriesInParse(t *testing.T) {
	entries := func(n int) string {
		var b strings.Builder
		for i := range n {
			b.WriteString(entryOf("009", 1, i))
		}
		return b.String()
	}
	for _, n := range []int{998, 999} {
		expectParsed(t, around(entries(n), strings.Repeat("\x1e", n)), record(many(control("009", ""), n)...))
	}
	for _, n := range []int{1000, 1001, 5000} {
		s := around(entries(n), strings.Repeat("\x1e", n))
		expectRefused(t, s, 12, api.ErrMany)
		expectRefused(t, changed(s, len(s)-1, "x"), 12, api.ErrMany)
		expectRefused(t, changed(s, 24, "000"), 12, api.ErrMany)
		expectRefused(t, changed(s, 24+12*n, "x"), 12, api.ErrLeader)
	}
}

// P3.3, 5: the last byte.
func TestLastByteInParse(t *testing.T) {
	for b := range 256 {
		if b != 29 {
			expectRefused(t, changed(example, 57, string([]byte{byte(b)})), 57, api.ErrField)
			expectRefused(t, changed(empty, 25, string([]byte{byte(b)})), 25, api.ErrField)
		}
	}
	expectRefused(t, changed(changed(example, 57, "x"), 24, "x"), 57, api.ErrField)
}

// P3.3, 6: the entries.
func TestEntriesInParse(t *testing.T) {
	data := "x\x1e10\x1faT\x1e"
	second := func(entry string) string { return around(entryOf("001", 2, 0)+entry, data) }
	expectParsed(t, second(entryOf("245", 6, 2)), exampleRecord())
	for _, entry := range []string{
		"000000600002", "x45000600002", "2x5000600002", "24x000600002", "2 5000600002", "\xff45000600002", "٠4000600002",
		"245x00600002", "245000x00002", "2450006x0002", "24500060000x", "2450006 0002", "245-00600002", "24500060000:", "245/00600002",
		entryOf("245", 0, 2), entryOf("245", 0, 0), entryOf("001", 0, 0),
		entryOf("245", 6, 3), entryOf("245", 1, 8), entryOf("245", 6, 99999), entryOf("245", 1, 99999), entryOf("245", 9999, 99999),
		entryOf("245", 7, 2), entryOf("245", 7, 0), entryOf("245", 7, 1), entryOf("245", 9, 0), entryOf("245", 9999, 0),
	} {
		expectRefused(t, second(entry), 36, api.ErrEntry)
	}
	// The sum counts, not the place: two entries may lie upon each other.
	expectParsed(t, around(entryOf("001", 2, 0)+entryOf("002", 2, 0), "x\x1eyz"), record(control("001", "x"), control("002", "x")))
	expectRefused(t, around(entryOf("001", 2, 0)+entryOf("002", 2, 0), "x\x1ey"), 36, api.ErrEntry)
	expectRefused(t, around(entryOf("001", 2, 0)+entryOf("002", 2, 0)+entryOf("003", 2, 0), "x\x1eyzu"), 48, api.ErrEntry)
	expectRefused(t, around(entryOf("001", 1, 0), ""), 24, api.ErrEntry)
}

// P3.3, 6 and 7: the faults of all entries come before those of fields, and of two entries, or two fields, that of the first one comes, wherever it is in the data.
func TestOrderOfTheErrorsOfParse(t *testing.T) {
	expectRefused(t, changed(changed(example, 49, "\n"), 36, "x"), 36, api.ErrEntry)
	expectRefused(t, changed(changed(example, 24, "x"), 36, "x"), 24, api.ErrEntry)
	expectRefused(t, changed(changed(example, 49, "\n"), 53, "\n"), 49, api.ErrField)
	swapped := around(entryOf("001", 2, 6)+entryOf("245", 6, 0), "10\x1f\nT\x1e\n\x1e")
	expectRefused(t, swapped, 24+24+1+6, api.ErrField)
	expectRefused(t, changed(swapped, 55, "x"), 24+24+1+3, api.ErrField)
	// The leader from left to right, but for its numbers: the length comes first, and the head last.
	wrong := "x0058na\x00 c2300048   4501" + example[24:57] + "x"
	for _, step := range []struct {
		at      int
		by      string
		wantAt  int
		wantErr api.Errno
	}{
		{6, "A", 0, api.ErrLeader},
		{0, "9", 58, api.ErrShort},
		{0, "0", 6, api.ErrLeader},
		{6, "a", 7, api.ErrLeader},
		{7, "m", 9, api.ErrLeader},
		{9, "a", 10, api.ErrLeader},
		{10, "22", 20, api.ErrLeader},
		{20, "4500", 12, api.ErrLeader},
		{12, "00049", 57, api.ErrField},
	} {
		wrong = changed(wrong, step.at, step.by)
		expectRefused(t, wrong, step.wantAt, step.wantErr)
	}
}

// P3.3, 7: the first byte at which control fields fail.
func TestControlFieldsInParse(t *testing.T) {
	for bytes, want := range map[string]int{
		"x":                      0,
		"xyz":                    2,
		"é":                      1,
		"x\x1e\x1e":              2,
		"\x1e\x1e":               1,
		"x\x1ey":                 2,
		"x\x1eyz\x1e":            2,
		"\x1e\xc3":               1,
		"x\x1f":                  1,
		"x\x1fa\x1e":             1,
		"\x00\x1e":               0,
		"ab\ncd\x1e":             2,
		"x\x1d":                  1,
		"\x80\x1e":               0,
		"a\xbf\x1e":              1,
		"a\xc0\x80\x1e":          1,
		"a\xc1\xbf\x1e":          1,
		"a\xc3":                  1,
		"a\xc3\x1e":              2,
		"a\xc3a\x1e":             2,
		"a\xc3\xc3\xa9\x1e":      2,
		"\xe0\x80\x80\x1e":       1,
		"\xe0\x9f\xbf\x1e":       1,
		"\xe0\xa0\x1e":           2,
		"\xe0\xa0":               1,
		"\xe2":                   0,
		"\xe2\x82\xe2\x82\xac":   2,
		"\xed\x9f\xc0\x1e":       2,
		"\xed\xa0\x80\x1e":       1,
		"\xed\xbf\xbf\x1e":       1,
		"\xf0\x80\x80\x80\x1e":   1,
		"\xf0\x8f\xbf\xbf\x1e":   1,
		"\xf0\x90\x1e":           2,
		"\xf0\x9f\x98\x1e":       3,
		"\xf0\x9f\x98":           2,
		"\xf4\x8f\xbf\x1e":       3,
		"\xf4\x90\x80\x80\x1e":   1,
		"\xf5\x80\x80\x80\x1e":   0,
		"😀\xf8\x88\x80\x80\x1e":  4,
		"\ufffd\xff\x1e":         3,
		"\xef\xbf\x1e":           2,
		"\xef\xbf\xbd\xbd\x1e":   3,
		"\xe2\x82\xac\xac\x1e":   3,
		"ab\x1e\x1fa\x1e":        3,
		"\u0080\u009f\x1f\x1e":   4,
		"\xff\xff\xff\xff\xff":   0,
		"a\xf1\x80\x80\xc0\x1e":  4,
		"a\xf3\xbf\xbf\xbf\x1ea": 6,
	} {
		expectRefused(t, alone("008", bytes), 37+want, api.ErrField)
		if at := wrongByte("008", bytes); at != want {
			t.Errorf("the definition fails at %d of %q, want %d", at, bytes, want)
		}
	}
}

// P3.3, 7: the first byte at which other fields fail.
func TestDataFieldsInParse(t *testing.T) {
	for bytes, want := range map[string]int{
		"\x1e":                       0,
		"1":                          0,
		"1\x1e":                      1,
		"10":                         1,
		"10\x1e":                     2,
		"10x\x1e":                    2,
		"100\x1faT\x1e":              2,
		"1\x1faT\x1e":                1,
		"\x1faT\x1e":                 0,
		"\x7f0\x1faT\x1e":            0,
		"1\x7f\x1faT\x1e":            1,
		"é\x1faT\x1e":                0,
		"1é\x1faT\x1e":               1,
		"10\x1d":                     2,
		"10\x1f":                     2,
		"10\x1f\x1e":                 3,
		"10\x1f T\x1e":               3,
		"10\x1f\x1fa\x1e":            3,
		"10\x1f\x7f\x1e":             3,
		"10\x1fé\x1e":                3,
		"10\x1fa":                    3,
		"10\x1faT":                   4,
		"10\x1faT\x1f":               5,
		"10\x1faT\x1f\x1e":           6,
		"10\x1faT\x1fbT":             7,
		"10\x1faT\x1fbT\x1e\x1e":     9,
		"10\x1faT\x1ex":              6,
		"10\x1faT\x1e\x1fbT\x1e":     6,
		"10\x1faT\x1d\x1e":           5,
		"10\x1fa\nT\x1e":             4,
		"10\x1fa\xc3":                4,
		"10\x1fa\xc3\x1f":            5,
		"10\x1fa\xc3\x1fb\x1e":       5,
		"10\x1fa\xe2\x82\x1e":        6,
		"10\x1fa\xed\xa0\x80\x1e":    5,
		"10\x1faT\x1fb\xff\x1e":      7,
		"10\x1faé\x1fbé\x1fcé\xa9":   14,
		"10\x1fa\xf0\x9f\x98\x1fb":   7,
		"10\x1fa\xf0\x9f\x98\x80":    7,
		"\xff\xff\xff":               0,
		"10\x1f\xff\x1e":             3,
		"10\x1fa\xf4\x90\x80\x80":    5,
		"~ \x1f~~\x1f~~\x1f~~~\x1e ": 13,
	} {
		expectRefused(t, alone("245", bytes), 37+want, api.ErrField)
		if at := wrongByte("245", bytes); at != want {
			t.Errorf("the definition fails at %d of %q, want %d", at, bytes, want)
		}
	}
}

// P3.3, 7: all fields of a few pieces, as the definition says.
func TestFieldsFollowTheDefinition(t *testing.T) {
	pieces := append(sample.Singles("1a\x1e\x1f\x1d\x7f\x80\xa0\xbf\xc3\xe0\xed\xf0\xf4"), "\x1fa")
	for s := range sample.Texts(pieces, 3) {
		if s != "" {
			expectDefined(t, alone("001", s))
			expectDefined(t, alone("245", s))
		}
		expectDefined(t, alone("001", s+"\x90\x80\x80\x1e"))
		expectDefined(t, alone("245", "10\x1fa"+s))
		expectDefined(t, alone("245", "10\x1fa"+s+"\x1e"))
	}
}

// P3.3: every byte of a record in turn as every other one, and one byte more or less, as the definition says.
func TestParseOfChangedRecords(t *testing.T) {
	for _, s := range []string{example, emma, empty} {
		for at := range len(s) {
			for b := range 256 {
				expectDefined(t, changed(s, at, string([]byte{byte(b)})))
			}
			shorter := s[:at] + s[at+1:]
			expectDefined(t, digits(len(shorter), 5)+shorter[min(5, len(shorter)):])
			expectDefined(t, digits(len(s)+1, 5)+s[5:max(5, at)]+"1"+s[max(5, at):])
		}
	}
}

// P3.3: records with several changes of digits and signs, as the definition says.
func TestParseFollowsTheDefinition(t *testing.T) {
	q := sample.Sequence(44)
	seen := map[api.Errno]int{}
	pieces := strings.Split("0,1,2,7,9,a,x,\x1d,\x1e,\x1f,é,\xc3,001,245,000", ",")
	for range 20000 {
		s, _ := marc.Write(rightRecord(&q))
		for range q.Below(4) {
			piece := pieces[q.Below(len(pieces))]
			// Most of the changes are behind the leader.
			if at := q.Below(len(s)); at+len(piece) <= len(s) && (at >= 24 || q.Below(8) == 0) {
				s = changed(s, at, piece)
			}
		}
		seen[expectDefined(t, s)]++
	}
	for _, e := range []api.Errno{api.OK, api.ErrLeader, api.ErrEntry, api.ErrField} {
		if seen[e] < 300 {
			t.Errorf("error %d in %d records only", e, seen[e])
		}
	}
}

// P3.3, P3.5: fields in another order, with gaps between them, or with data that overlap.
func TestFieldsAnywhereInTheData(t *testing.T) {
	want := record(control("001", "x"), field("245", "10", "aT"), control("005", ""))
	bytes := []string{"x\x1e", "10\x1faT\x1e", "\x1e"}
	tags := []string{"001", "245", "005"}
	for _, order := range [][]int{{0, 1, 2}, {0, 2, 1}, {1, 0, 2}, {1, 2, 0}, {2, 0, 1}, {2, 1, 0}} {
		for _, gap := range []string{"", "\x00", "any\xffthing\x1d\x1e"} {
			data := gap
			var places [3]int
			for _, i := range order {
				places[i] = len(data)
				data += bytes[i] + gap
			}
			entries := ""
			for i := range tags {
				entries += entryOf(tags[i], len(bytes[i]), places[i])
			}
			expectParsed(t, around(entries, data), want)
		}
	}
	data := "10\x1faabc\x1e" + strings.Repeat("-", 20)
	entries := entryOf("245", 8, 0) + entryOf("300", 8, 0) + entryOf("001", 4, 4) + entryOf("002", 1, 7) + entryOf("003", 2, 6)
	expectParsed(t, around(entries, data), record(field("245", "10", "aabc"), field("300", "10", "aabc"), control("001", "abc"), control("002", ""), control("003", "c")))
}

// P3.3: the largest record that there is, and the largest field.
func TestLargestRecords(t *testing.T) {
	text := strings.Repeat("é", 4999)
	r := record(many(control("001", text), 9)...)
	s := around(strings.Repeat(entryOf("001", 9999, 0), 9), text+"\x1e"+strings.Repeat(" ", 99865-9999))
	if len(s) != 99999 {
		t.Fatalf("%d bytes", len(s))
	}
	expectParsed(t, s, r)
	expectRefused(t, s+" ", 0, api.ErrLeader)
	expectRefused(t, s[:99998], 99998, api.ErrShort)
	expectRefused(t, strings.Repeat("9", 99999), 6, api.ErrLeader)
	expectRefused(t, strings.Repeat("9", 1<<20), 0, api.ErrLeader)
}

// P1: arbitrary bytes, behind an arbitrary beginning of a record. R2: with an error, the record is zero.
func TestParseOfArbitraryBytes(t *testing.T) {
	q := sample.Sequence(45)
	for range 20000 {
		s := emma[:q.Below(len(emma))] + q.Bytes(q.Below(80))
		if len(s) >= 5 && q.Below(4) > 0 {
			s = digits(len(s), 5) + s[5:]
		}
		expectDefined(t, s)
		expectDefined(t, q.Bytes(q.Below(40)))
	}
}

// R3: the lists of a record are new, so a caller may change it. R4: the next call returns the same.
func TestParsedRecordsAreNew(t *testing.T) {
	s := emma
	r, _, _ := marc.Parse(s)
	for i := range r.Fields {
		clear(r.Fields[i].Subs)
		r.Fields[i].Subs = append(r.Fields[i].Subs, api.Sub{Code: 'z'})
	}
	if len(r.Fields) != 3 || len(r.Fields[1].Subs) != 3 || !slices.Equal(r.Fields[0].Subs, []api.Sub{{Code: 'z'}}) || r.Fields[2].Subs[0] != (api.Sub{}) {
		t.Errorf("the fields share memory: %v", r.Fields)
	}
	clear(r.Fields)
	expectParsed(t, s, emmaRecord())
}
