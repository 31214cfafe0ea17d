package sample

import (
	"slices"

	"pinakes/api"
)

// Control makes a control field.
func Control(tag, data string) api.Field { return api.Field{Tag: tag, Data: data} }

// Field makes a field with subfields: each text is a code and what is behind it.
func Field(tag, ind string, texts ...string) api.Field {
	f := api.Field{Tag: tag, Ind: ind}
	for _, s := range texts {
		f.Subs = append(f.Subs, api.Sub{Code: s[0], Text: s[1:]})
	}
	return f
}

// CopyOf returns a record that shares no lists with r.
func CopyOf(r api.Record) api.Record {
	r.Fields = slices.Clone(r.Fields)
	for i := range r.Fields {
		r.Fields[i].Subs = slices.Clone(r.Fields[i].Subs)
	}
	return r
}

// Equal says whether two records are the same. Nil and empty lists do not differ.
func Equal(a, b api.Record) bool {
	return a.Kind == b.Kind && a.Level == b.Level && slices.EqualFunc(a.Fields, b.Fields, EqualFields)
}

// EqualFields says whether two fields are the same.
func EqualFields(f, g api.Field) bool {
	return f.Tag == g.Tag && f.Ind == g.Ind && f.Data == g.Data && slices.Equal(f.Subs, g.Subs)
}
