package copies_test

import (
	"testing"
	"unsafe"

	"pinakes/api"
	"pinakes/copies"
	"pinakes/sample"
)

// textsOf returns the memory of all texts of a record that are not empty, and how many there are.
func textsOf(r api.Record) (memory map[*byte]bool, many int) {
	memory = map[*byte]bool{}
	for _, f := range r.Fields {
		texts := []string{f.Tag, f.Ind, f.Data}
		for _, s := range f.Subs {
			texts = append(texts, s.Text)
		}
		for _, s := range texts {
			if s != "" {
				memory[unsafe.StringData(s)] = true
				many++
			}
		}
	}
	return memory, many
}

func TestRecord(t *testing.T) {
	shared := sample.Field("650", "  ", "aSea", "xstories", "a")
	r := api.Record{Kind: 'a', Level: 'm', Fields: []api.Field{sample.Control("001", "x"), shared, shared, {Tag: "650", Ind: "  ", Data: "x", Subs: shared.Subs[:1]}}}
	given := sample.CopyOf(r)
	c := copies.Record(r)
	if !sample.Equal(c, given) {
		t.Fatalf("Record of %+v: %+v", given, c)
	}
	old, _ := textsOf(r)
	own, many := textsOf(c)
	if len(own) != many {
		t.Errorf("%d of %d texts share memory", many-len(own), many)
	}
	for at := range own {
		if old[at] {
			t.Error("a text shares memory with the record")
		}
	}
	for i := range c.Fields {
		if !sample.EqualFields(c.Fields[i], given.Fields[i]) {
			t.Errorf("field %d shares a list with another one", i)
		}
		clear(c.Fields[i].Subs[:cap(c.Fields[i].Subs)])
	}
	clear(c.Fields)
	if !sample.Equal(r, given) {
		t.Errorf("%+v was changed to %+v", given, r)
	}
	if c := copies.Record(api.Record{}); !sample.Equal(c, api.Record{}) {
		t.Errorf("Record of nothing: %+v", c)
	}
}

func TestField(t *testing.T) {
	f := sample.Field("245", "10", "aEmma", "b")
	c := copies.Field(f)
	if !sample.EqualFields(c, f) {
		t.Errorf("Field of %+v: %+v", f, c)
	}
	clear(c.Subs)
	if !sample.EqualFields(f, sample.Field("245", "10", "aEmma", "b")) {
		t.Error("Field shares a list with its field")
	}
}
