package fields_test

import (
	"slices"
	"testing"

	"pinakes/api"
	"pinakes/fields"
	"pinakes/sample"
)

var someRecord = api.Record{Fields: []api.Field{
	sample.Control("001", "x"),
	sample.Field("245", "10", "bfirst", "aEmma", "c", "asecond", "A"),
	sample.Field("020", "  ", "a1", "b2", "a3"),
	sample.Field("245", "00", "aother"),
	sample.Field("020", "  "),
	sample.Field("020", "  ", "a", "a5"),
}}

func TestFirst(t *testing.T) {
	if f := fields.First(someRecord, "245"); !sample.EqualFields(f, someRecord.Fields[1]) {
		t.Errorf("First: %+v", f)
	}
	for _, tag := range []string{"", "24", "2450", "100", "1"} {
		if f := fields.First(someRecord, tag); !sample.EqualFields(f, api.Field{}) {
			t.Errorf("First with %q: %+v", tag, f)
		}
	}
	if f := fields.First(api.Record{}, "245"); !sample.EqualFields(f, api.Field{}) {
		t.Errorf("First of nothing: %+v", f)
	}
}

func TestText(t *testing.T) {
	f := someRecord.Fields[1]
	for codes, want := range map[string]string{"": "", "a": "Emma second", "ab": "first Emma second", "ba": "first Emma second", "c": "", "ca": "Emma  second", "x": "", "A": "", "\x00": ""} {
		if got := fields.Text(f, codes); got != want {
			t.Errorf("Text of %q: %q, want %q", codes, got, want)
		}
	}
	if got := fields.Text(api.Field{}, "a"); got != "" {
		t.Errorf("Text of nothing: %q", got)
	}
}

func TestTexts(t *testing.T) {
	if got := slices.Collect(fields.Texts(someRecord, "020", 'a')); !slices.Equal(got, []string{"1", "3", "", "5"}) {
		t.Errorf("Texts: %q", got)
	}
	for tag, code := range map[string]byte{"020": 'x', "02": 'a', "001": 'a', "": 0} {
		if got := slices.Collect(fields.Texts(someRecord, tag, code)); len(got) != 0 {
			t.Errorf("Texts of %q, %q: %q", tag, code, got)
		}
	}
	for text := range fields.Texts(someRecord, "020", 'a') {
		if text == "3" {
			break
		}
	}
}
