package keys_test

import (
	"fmt"
	"slices"
	"strings"
	"testing"
	"unsafe"

	"pinakes/api"
	"pinakes/keys"
	"pinakes/sample"
)

func shown(x any) string {
	s := fmt.Sprintf("%+q", x)
	return s[:min(len(s), 300)]
}

// isPartOf says whether a text lies in the memory of another one. Texts of one byte are left out: Go has only one of each.
func isPartOf(part, s string) bool {
	if part == "" || len(s) < 2 {
		return false
	}
	start, begin := uintptr(unsafe.Pointer(unsafe.StringData(part))), uintptr(unsafe.Pointer(unsafe.StringData(s)))
	return start >= begin && start < begin+uintptr(len(s))
}

// expectFold compares Fold, and Words, with a result. R3: the results are new memory; R4: the second call returns the same.
func expectFold(t *testing.T, s, want string) {
	t.Helper()
	for range 2 {
		got := keys.Fold(s)
		if got != want {
			t.Errorf("Fold(%s): %s, want %s", shown(s), shown(got), shown(want))
		}
		list := keys.Words(s)
		if !slices.Equal(list, strings.Fields(want)) {
			t.Errorf("Words(%s): %s, want those of %s", shown(s), shown(list), shown(want))
		}
		if isPartOf(got, s) || slices.ContainsFunc(list, func(word string) bool { return isPartOf(word, s) }) {
			t.Errorf("Fold or Words of %s shares memory with it", shown(s))
		}
	}
}

func expectSort(t *testing.T, s string, skip int, want string) {
	t.Helper()
	for range 2 {
		got := keys.Sort(s, skip)
		if got != want {
			t.Errorf("Sort(%s, %d): %s, want %s", shown(s), skip, shown(got), shown(want))
		}
		if isPartOf(got, s) {
			t.Errorf("Sort(%s, %d) shares memory with it", shown(s), skip)
		}
	}
}

// expectIsbn compares Isbn with a number; the empty string stands for none. R2: there is no text together with false.
func expectIsbn(t *testing.T, s, want string) {
	t.Helper()
	for range 2 {
		got, right := keys.Isbn(s)
		if got != want || right != (want != "") {
			t.Errorf("Isbn(%s): %s, %v, want %s", shown(s), shown(got), right, shown(want))
		}
		if isPartOf(got, s) {
			t.Errorf("Isbn(%s) shares memory with it", shown(s))
		}
	}
}

func expectTitle(t *testing.T, r api.Record, want string) {
	t.Helper()
	given := sample.CopyOf(r)
	for range 2 {
		if got := keys.Title(r); got != want {
			t.Errorf("Title(%s): %s, want %s", shown(r), shown(got), shown(want))
		}
	}
	expectUnchanged(t, r, given)
}

func expectAll(t *testing.T, r api.Record, want ...string) {
	t.Helper()
	given := sample.CopyOf(r)
	for range 2 {
		got := keys.All(r)
		if !slices.Equal(got, want) {
			t.Errorf("All(%s): %s, want %s", shown(r), shown(got), shown(want))
		}
		clear(got) // R3: the next result is another list
	}
	expectUnchanged(t, r, given)
}

// expectUnchanged checks R3: a call has not changed its record.
func expectUnchanged(t *testing.T, r, given api.Record) {
	t.Helper()
	if !sample.Equal(r, given) {
		t.Errorf("%s was changed to %s", shown(given), shown(r))
	}
}

// The fields of the tests are written in this way.
var field = sample.Field

func record(fields ...api.Field) api.Record {
	return api.Record{Kind: 'a', Level: 'm', Fields: fields}
}

// somePieces are characters of every line of the tables, marks, signs, and bytes that are no characters.
func somePieces() []string {
	return []string{
		"a", "z", "Q", "0", "1", "7", "9", " ", " ", "-", ",", "'", "\n", "\u0301", "\ufe20", "é", "É", "ł", "æ", "ß", "Þ",
		"α", "Σ", "ς", "ΐ", "Ή", "я", "Ж", "ё", "Ё", "\u03a2", "\u00a0", "ẞ", "日", "😀", "\x80", "\xc3", "\xe2\x82", "\xed\xa0\x80", "\xff",
	}
}

func someText(q *sample.Sequence) string {
	if q.Below(8) == 0 {
		return q.Bytes(q.Below(12))
	}
	return q.Join(somePieces(), q.Below(12))
}

// someNumber makes a text that begins with a book number more often than not, at times with blanks, hyphens, and text behind it.
func someNumber(q *sample.Sequence) string {
	n := rightNumber(q)
	switch q.Below(8) {
	case 0:
		n = q.Join([]string{"0", "1", "5", "9", "X", "x"}, 9+q.Below(6))
	case 1:
		n = changed(q, n)
	}
	for range q.Below(4) {
		at := q.Below(len(n) + 1)
		n = n[:at] + q.Join([]string{" ", "-"}, q.Below(3)) + n[at:]
	}
	return n + []string{"", " ", " (pbk.)", ":x", "1", " X", "\xff"}[q.Below(7)]
}

// changed returns a number with another digit at one place.
func changed(q *sample.Sequence, n string) string {
	at := q.Below(len(n))
	return n[:at] + q.Join([]string{"0", "3", "8", "X"}, 1) + n[at+1:]
}

// rightNumber makes a book number with its check digit, of both lengths equally often.
func rightNumber(q *sample.Sequence) string {
	digits := sample.Singles("0123456789")
	if q.Below(2) == 0 {
		nine := q.Join(digits, 9)
		return nine + lastOfTen(nine)
	}
	twelve := q.Join([]string{"978", "979", "000"}, 1) + q.Join(digits, 9)
	return twelve + lastOfThirteen(twelve)
}

func someRecord(q *sample.Sequence) api.Record {
	var r api.Record
	for range q.Below(8) {
		r.Fields = append(r.Fields, someField(q))
	}
	return r
}

func someField(q *sample.Sequence) api.Field {
	tags := []string{"020", "020", "100", "245", "245", "246", "02", "0200", ""}
	inds := []string{"  ", "00", "14", "12", "1x", "1", "", "123", "1é"}
	f := api.Field{Tag: tags[q.Below(len(tags))], Ind: inds[q.Below(len(inds))]}
	for range q.Below(5) {
		s := api.Sub{Code: "aaabcx"[q.Below(6)], Text: someText(q)}
		if f.Tag == "020" {
			s.Text = someNumber(q)
		}
		f.Subs = append(f.Subs, s)
	}
	return f
}
