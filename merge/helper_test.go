package merge_test

import (
	"fmt"
	"slices"
	"testing"
	"unsafe"

	"pinakes/api"
	"pinakes/merge"
	"pinakes/sample"
)

// The fields of the tests are written in this way.
var field, control = sample.Field, sample.Control

// plain makes a field with a subfield.
func plain(tag, text string) api.Field { return field(tag, "  ", "a"+text) }

func rec(source, number int) api.Rec { return api.Rec{Source: source, Number: number} }

// version makes a version of a record. Different records have different kinds and levels, as do different versions.
func version(source, number, version int, fields ...api.Field) api.Version {
	r := api.Record{Kind: byte(3*source + number), Level: byte(5*number + version), Fields: fields}
	return api.Version{From: rec(source, number), Number: version, Record: r}
}

// said is a field of a merged record, with the record that says it.
type said struct {
	from  api.Rec
	field api.Field
}

// by makes what is said by a record.
func by(source, number int, fields ...api.Field) []said {
	var list []said
	for _, f := range fields {
		list = append(list, said{rec(source, number), f})
	}
	return list
}

// mergedOf makes a merged record with the kind and the level of a version.
func mergedOf(first api.Version, list []said) api.Merged {
	m := api.Merged{Record: api.Record{Kind: first.Record.Kind, Level: first.Record.Level}}
	for _, s := range list {
		m.Record.Fields = append(m.Record.Fields, s.field)
		m.From = append(m.From, s.from)
	}
	return m
}

func shown(x any) string {
	s := fmt.Sprintf("%+q", x)
	return s[:min(len(s), 900)]
}

func copiesOf(l []api.Version) []api.Version {
	l = slices.Clone(l)
	for i := range l {
		l[i].Record = sample.CopyOf(l[i].Record)
	}
	return l
}

func equalVersions(v, w api.Version) bool {
	return v.From == w.From && v.Number == w.Number && sample.Equal(v.Record, w.Record)
}

func equalMerged(m, n api.Merged) bool {
	return sample.Equal(m.Record, n.Record) && slices.Equal(m.From, n.From)
}

// expectLatest compares Latest with a list.
func expectLatest(t *testing.T, l []api.Version, want ...api.Version) {
	t.Helper()
	expectVersions(t, "Latest", merge.Latest, l, want)
}

// expectWithout compares Without with a list.
func expectWithout(t *testing.T, l []api.Version, source int, want ...api.Version) {
	t.Helper()
	without := func(l []api.Version) []api.Version { return merge.Without(l, source) }
	expectVersions(t, fmt.Sprintf("Without source %d", source), without, l, want)
}

// expectVersions compares the result of a call with a list. R3: the argument is not changed, the result is new memory, and no two lists of it share memory; R4: the second call returns the same.
func expectVersions(t *testing.T, name string, call func([]api.Version) []api.Version, l, want []api.Version) {
	t.Helper()
	given, texts := copiesOf(l), textsOf(l)
	for range 2 {
		got := call(l)
		if !slices.EqualFunc(got, want, equalVersions) {
			t.Errorf("%s of %s: %s, want %s", name, shown(given), shown(got), shown(want))
			return
		}
		for i, v := range got {
			if !equalVersions(v, want[i]) {
				t.Errorf("%s of %s: version %d shares a list with another one", name, shown(given), i)
			}
			expectOwnMemory(t, v.Record.Fields, want[i].Record.Fields, texts)
			clear(v.Record.Fields[:cap(v.Record.Fields)])
		}
		clear(got[:cap(got)])
	}
	expectUnchanged(t, l, given)
}

// expectMerged compares Merge with what is said, in order, and with the kind and the level of a version. R3 and R4: see expectVersions.
func expectMerged(t *testing.T, l []api.Version, first api.Version, parts ...[]said) {
	t.Helper()
	want := mergedOf(first, slices.Concat(parts...))
	given, texts := copiesOf(l), textsOf(l)
	for range 2 {
		got := merge.Merge(l)
		if !equalMerged(got, want) {
			t.Errorf("Merge of %s: %s, want %s", shown(given), shown(got), shown(want))
			return
		}
		expectOwnMemory(t, got.Record.Fields, want.Record.Fields, texts)
		clear(got.Record.Fields[:cap(got.Record.Fields)])
		clear(got.From[:cap(got.From)])
	}
	expectUnchanged(t, l, given)
}

func expectUnchanged(t *testing.T, l, given []api.Version) {
	t.Helper()
	if !slices.EqualFunc(l, given, equalVersions) {
		t.Errorf("%s was changed to %s", shown(given), shown(l))
	}
}

// expectOwnMemory spoils the lists of subfields of one field after the other: each must be right until its turn comes. No text of the fields is one of the given texts.
func expectOwnMemory(t *testing.T, fields, want []api.Field, texts map[*byte]bool) {
	t.Helper()
	for i, f := range fields {
		if !sample.EqualFields(f, want[i]) {
			t.Errorf("field %d shares a list with another one: %s, want %s", i, shown(f), shown(want[i]))
		}
		for _, s := range textsOfField(f) {
			if texts[unsafe.StringData(s)] {
				t.Errorf("field %d, %s, shares the memory of a text %q with the argument", i, shown(f), s)
			}
		}
		subs := f.Subs[:cap(f.Subs)]
		for k := range subs {
			subs[k] = api.Sub{Code: 0xff, Text: "spoilt"}
		}
	}
}

// textsOf returns the memory of all texts of versions, but for empty ones.
func textsOf(l []api.Version) map[*byte]bool {
	texts := map[*byte]bool{}
	for _, v := range l {
		for _, f := range v.Record.Fields {
			for _, s := range textsOfField(f) {
				texts[unsafe.StringData(s)] = true
			}
		}
	}
	return texts
}

func textsOfField(f api.Field) []string {
	texts := []string{f.Tag, f.Ind, f.Data}
	for _, s := range f.Subs {
		texts = append(texts, s.Text)
	}
	return slices.DeleteFunc(texts, func(s string) bool { return s == "" })
}
