package sample_test

import (
	"testing"

	"pinakes/api"
	"pinakes/sample"
)

func TestFields(t *testing.T) {
	f := sample.Field("245", "10", "aEmma", "b")
	if f.Tag != "245" || f.Ind != "10" || f.Data != "" || len(f.Subs) != 2 || f.Subs[0] != (api.Sub{Code: 'a', Text: "Emma"}) || f.Subs[1] != (api.Sub{Code: 'b'}) {
		t.Errorf("Field: %+v", f)
	}
	if c := sample.Control("001", "x"); c.Tag != "001" || c.Ind != "" || c.Data != "x" || len(c.Subs) != 0 {
		t.Errorf("Control: %+v", c)
	}
}

// Records differ in each of their parts, but not in nil and empty lists.
func TestEqual(t *testing.T) {
	with := func(change func(r *api.Record)) api.Record {
		r := api.Record{Kind: 'a', Level: 'm', Fields: []api.Field{sample.Control("001", "x"), sample.Field("245", "10", "aEmma", "b")}}
		change(&r)
		return r
	}
	r := with(func(*api.Record) {})
	if !sample.Equal(r, with(func(r *api.Record) { r.Fields[0].Subs = []api.Sub{} })) {
		t.Error("a nil list and an empty one differ")
	}
	if !sample.Equal(api.Record{}, api.Record{Fields: []api.Field{}}) {
		t.Error("a record with a nil list and one with an empty one differ")
	}
	for i, change := range []func(r *api.Record){
		func(r *api.Record) { r.Kind = 'b' },
		func(r *api.Record) { r.Level = 'b' },
		func(r *api.Record) { r.Fields = r.Fields[:1] },
		func(r *api.Record) { r.Fields[1].Tag = "246" },
		func(r *api.Record) { r.Fields[1].Ind = "1" },
		func(r *api.Record) { r.Fields[0].Data = "X" },
		func(r *api.Record) { r.Fields[1].Subs = r.Fields[1].Subs[:1] },
		func(r *api.Record) { r.Fields[1].Subs[1].Code = 'c' },
		func(r *api.Record) { r.Fields[1].Subs[1].Text = "x" },
	} {
		if other := with(change); sample.Equal(r, other) || sample.Equal(other, r) {
			t.Errorf("change %d makes no difference", i)
		}
	}
}

func TestCopyOf(t *testing.T) {
	r := api.Record{Kind: 'a', Fields: []api.Field{sample.Field("245", "10", "aEmma", "b"), sample.Field("650", "  ", "aSea")}}
	first, second := sample.CopyOf(r), sample.CopyOf(r)
	if !sample.Equal(first, r) {
		t.Errorf("CopyOf(%+v): %+v", r, first)
	}
	first.Fields[0].Subs[1].Text, first.Fields[1].Tag = "x", "651"
	if sample.Equal(first, r) || !sample.Equal(second, r) {
		t.Error("CopyOf shares a list with its record")
	}
}
