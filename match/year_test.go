package match_test

import (
	"fmt"
	"testing"

	"pinakes/api"
	"pinakes/match"
	"pinakes/sample"
)

// expectYear checks that fields have a year, which "" stands for none: by what they count together with the year, with those next to it, and with others.
func expectYear(t *testing.T, want string, fields ...api.Field) {
	t.Helper()
	if want == "" {
		for _, other := range []string{"0000", "0001", "1984", "9998", "9999"} {
			expectPoints(t, record(fields...), record(year(other)), 0)
		}
		expectPoints(t, record(fields...), record(fields...), 0)
		return
	}
	n := 0
	for _, digit := range []byte(want) {
		n = 10*n + int(digit-'0')
	}
	for distance, points := range map[int]int{0: 10, 1: 0, -1: 0, 2: -10, -2: -10, 1000: -10, -1000: -10} {
		if other := n + distance; other >= 0 && other <= 9999 {
			expectPoints(t, record(fields...), record(year(fmt.Sprintf("%04d", other))), points)
			expectPoints(t, record(fields...), record(published(fmt.Sprintf("%04d", other))), points)
		}
	}
	expectPoints(t, record(fields...), record(fields...), 10)
}

// P6.1: years that are equal, that differ by 1 and by 2, and the first and the last one; expectYear compares each with its neighbours.
func TestYears(t *testing.T) {
	for _, s := range []string{"0000", "0001", "0002", "0999", "1000", "1899", "1900", "1984", "1999", "2000", "2026", "9997", "9998", "9999"} {
		expectYear(t, s, year(s))
		expectYear(t, s, published(s))
	}
	expectPoints(t, record(year("0000")), record(year("9999")), -10)
	expectPoints(t, record(year("0000")), record(), 0)
	expectPoints(t, record(year("0000")), record(published("0000")), 10)
	expectPoints(t, record(year("0001")), record(), 0)
	for first := range 12 {
		for second := range 12 {
			want := -10
			switch first - second {
			case 0:
				want = 10
			case 1, -1:
				want = 0
			}
			expectPoints(t, record(year(fmt.Sprintf("%04d", 1995+first))), record(published(fmt.Sprintf("%04d", 1995+second))), want)
		}
	}
}

// P6.1: the year of 008: the bytes 7 to 10 of at least 11.
func TestYearOf008(t *testing.T) {
	expectYear(t, "1984", control("008", "850101s1984"))
	expectYear(t, "1984", control("008", "850101s1984    xx"))
	expectYear(t, "1984", control("008", "850101s19841985"))
	expectYear(t, "1984", control("008", "       1984"))
	expectYear(t, "1984", control("008", "\xff\xc3é\x00\n71984\xff"))
	expectYear(t, "1984", control("008", "99999991984"))
	for _, short := range []string{"", "8", "1984", "850101s", "850101s1", "850101s198", "19841984", "1984198419"} {
		expectYear(t, "", control("008", short))
		expectYear(t, "1990", control("008", short), published("1990"))
	}
	// Bytes that are no digits, at each place.
	for n := range 256 {
		for place := range 4 {
			digits := []byte("1984")
			digits[place] = byte(n)
			data := "850101s" + string(digits) + "1985"
			if n >= '0' && n <= '9' {
				if got := match.Points(record(control("008", data)), record(year(string(digits)))); got != 10 {
					t.Errorf("Points of the year %q and itself: %d", digits, got)
				}
				continue
			}
			if got := match.Points(record(control("008", data)), record(year("1985"))); got != 0 {
				t.Errorf("the year %q counts %d", digits, got)
			}
			if got := match.Points(record(control("008", data), published("1990")), record(year("1990"))); got != 10 {
				t.Errorf("the year %q in front of 1990 counts %d", digits, got)
			}
		}
	}
	// No digits: of another script, with two bytes each.
	expectYear(t, "", control("008", "850101s\u0661\u0669"))
}

// P6.1: the first field 008, also if it has no year. Its texts do not count.
func TestFirst008(t *testing.T) {
	expectYear(t, "1984", year("1984"), year("1990"))
	expectYear(t, "1990", year("1990"), control("008", ""), year("1984"))
	expectYear(t, "", control("008", ""), year("1984"))
	expectYear(t, "", year("198x"), year("1984"))
	expectYear(t, "1970", year("198x"), year("1984"), published("1970"))
	expectYear(t, "", field("008", "", "c850101s1984", "a850101s1984"))
	for _, tag := range []string{"", "8", "08", "0088", "007", "009", "00", " 008", "260"} {
		expectYear(t, "", control(tag, "850101s1984"))
		expectYear(t, "1990", control(tag, "850101s1984"), year("1990"))
	}
}

// P6.1: 008 is in front of 260, whatever their order.
func Test008InFrontOf260(t *testing.T) {
	expectYear(t, "1984", year("1984"), published("1990"))
	expectYear(t, "1984", published("1990"), year("1984"))
	expectYear(t, "0000", year("0000"), published("1990"))
	expectYear(t, "1990", year("    "), published("1990"))
	expectYear(t, "1990", published("1990"), year("uuuu"))
	expectYear(t, "1990", year("198"), published("1990"))
	expectYear(t, "", year("198"), published("199"))
	expectYear(t, "1984", year("1984"), published("none"))
}

// P6.1: the year of 260: the first four neighbouring digits.
func TestYearOf260(t *testing.T) {
	for _, x := range []struct {
		texts []string
		want  string
	}{
		{[]string{"1984"}, "1984"},
		{[]string{"c1984."}, "1984"},
		{[]string{"[1984?]"}, "1984"},
		{[]string{"1984-1990"}, "1984"},
		{[]string{"19841990"}, "1984"},
		{[]string{"12345"}, "1234"},
		{[]string{"123456789"}, "1234"},
		{[]string{"x12345y"}, "1234"},
		{[]string{"00001984"}, "0000"},
		{[]string{"0000"}, "0000"},
		// Fewer than four do not count.
		{[]string{"123"}, ""},
		{[]string{"123 1984"}, "1984"},
		{[]string{"12 345 6789"}, "6789"},
		{[]string{"1-2-3-4"}, ""},
		{[]string{"198u 19-- 1 9 8 4"}, ""},
		{[]string{"123a4567"}, "4567"},
		{[]string{"198\x004"}, ""},
		{[]string{"\xff1984\xff"}, "1984"},
		{[]string{"198é4, 昭和1985年"}, "1985"},
		{[]string{"١٩٨٤"}, ""},
		{[]string{"no year"}, ""},
		{[]string{""}, ""},
		{nil, ""},
		// Several subfields, between which there is a blank.
		{[]string{"none", "c1984", "1990"}, "1984"},
		{[]string{"19", "84"}, ""},
		{[]string{"198", "4", "4567"}, "4567"},
		{[]string{"123", "", "9999"}, "9999"},
		{[]string{"", "12345"}, "1234"},
	} {
		expectYear(t, x.want, published(x.texts...))
	}
}

// P6.1: the subfields c of the first field 260, and no others.
func TestFirst260(t *testing.T) {
	expectYear(t, "1984", published("1984"), published("1990"))
	expectYear(t, "", published("none"), published("1990"))
	expectYear(t, "", published(), published("1990"))
	expectYear(t, "", control("260", "1984"), published("1990"))
	expectYear(t, "1984", field("260", "  ", "a1970", "b1980", "c1984", "g1990"))
	expectYear(t, "1984", field("260", "", "a12", "c1984"))
	for code := range 256 {
		f := api.Field{Tag: "260", Ind: "  ", Subs: []api.Sub{{Code: byte(code), Text: "1984"}}}
		want := 0
		if code == 'c' {
			want = 10
		}
		if got := match.Points(record(f), record(year("1984"))); got != want {
			t.Errorf("the subfield %q counts %d", byte(code), got)
		}
	}
	for _, tag := range []string{"", "26", "2600", "264", "261", "008", "26x"} {
		expectYear(t, "", field(tag, "  ", "c1984"))
		expectYear(t, "1990", field(tag, "  ", "c1984"), published("1990"))
	}
}

// P6.1: all short texts in the place of the year, against the definition.
func TestShortYears(t *testing.T) {
	pieces := []string{"1", "23", " ", "x"}
	for s := range sample.Texts(pieces, 5) {
		for _, r := range []api.Record{record(control("008", "850101s"+s)), record(published(s)), record(control("008", "850101"+s), published("c"+s))} {
			for _, other := range []string{"1111", "1123", "1231", "2323", "2312"} {
				if got, want := match.Points(r, record(year(other))), pointsByDefinition(r, record(year(other))); got != want {
					t.Errorf("Points of %s and the year %s: %d, want %d", shown(r), other, got, want)
				}
			}
		}
	}
}
