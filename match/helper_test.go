package match_test

import (
	"fmt"
	"slices"
	"testing"

	"pinakes/api"
	"pinakes/match"
	"pinakes/sample"
)

func shown(x any) string {
	s := fmt.Sprintf("%+q", x)
	return s[:min(len(s), 600)]
}

// expectPoints compares Points, and Same, of two records in both orders with a number. R3: the records are not changed; R4: the second call returns the same.
func expectPoints(t *testing.T, a, b api.Record, want int) {
	t.Helper()
	givenA, givenB := sample.CopyOf(a), sample.CopyOf(b)
	for range 2 {
		if p, q := match.Points(a, b), match.Points(b, a); p != want || q != want {
			t.Errorf("Points of %s and %s: %d, the other way round %d, want %d", shown(a), shown(b), p, q, want)
		}
		if p, q := match.Same(a, b), match.Same(b, a); p != (want >= 40) || q != p {
			t.Errorf("Same of %s and %s with %d points: %v, the other way round %v", shown(a), shown(b), want, p, q)
		}
	}
	if !sample.Equal(a, givenA) || !sample.Equal(b, givenB) {
		t.Errorf("%s and %s were changed to %s and %s", shown(givenA), shown(givenB), shown(a), shown(b))
	}
}

// expectPairs compares Pairs with a list. R3: the records are not changed, and each result is new memory.
func expectPairs(t *testing.T, l []api.Record, want ...[2]int) {
	t.Helper()
	given := make([]api.Record, len(l))
	for i, r := range l {
		given[i] = sample.CopyOf(r)
	}
	for range 2 {
		got := match.Pairs(l)
		if !slices.Equal(got, want) {
			t.Errorf("Pairs of %s: %v, want %v", shown(l), got, want)
		}
		clear(got)
	}
	if !slices.EqualFunc(l, given, sample.Equal) {
		t.Errorf("%s was changed to %s", shown(given), shown(l))
	}
}

// expectParts compares Parts with a list of lists. R3: the pairs are not changed, each result is new memory, and no part goes on in the memory of another one.
func expectParts(t *testing.T, n int, pairs [][2]int, want ...[]int) {
	t.Helper()
	given := slices.Clone(pairs)
	for range 2 {
		got := match.Parts(n, pairs)
		for _, part := range got {
			beyond := part[:cap(part)]
			clear(beyond[len(part):])
		}
		if !slices.EqualFunc(got, want, slices.Equal) {
			t.Errorf("Parts of %d and %v: %v, want %v", n, pairs, got, want)
		}
		for _, part := range got {
			clear(part)
		}
	}
	if !slices.Equal(pairs, given) {
		t.Errorf("the pairs %v were changed to %v", given, pairs)
	}
}

// The fields of the tests are written in this way.
var field, control = sample.Field, sample.Control

// record makes a record of the kind a.
func record(fields ...api.Field) api.Record {
	return api.Record{Kind: 'a', Level: 'm', Fields: fields}
}

// numbers makes a field for book numbers, one subfield for each.
func numbers(list ...string) api.Field {
	f := api.Field{Tag: "020", Ind: "  "}
	for _, s := range list {
		f.Subs = append(f.Subs, api.Sub{Code: 'a', Text: s})
	}
	return f
}

func title(s string) api.Field  { return field("245", "00", "a"+s) }
func author(s string) api.Field { return field("100", "1 ", "a"+s) }

// year makes a field 008 with a text in the place of the year.
func year(s string) api.Field { return control("008", "850101s"+s) }

// published makes a field 260 with texts for the year.
func published(texts ...string) api.Field {
	f := api.Field{Tag: "260", Ind: "  "}
	for _, s := range texts {
		f.Subs = append(f.Subs, api.Sub{Code: 'c', Text: s})
	}
	return f
}

// withKind returns a record with another kind.
func withKind(kind byte, r api.Record) api.Record {
	r.Kind = kind
	return r
}
