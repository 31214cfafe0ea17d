// Package copies makes copies that share no memory with what they were made of, nor in themselves, even if that does.
package copies

import (
	"slices"
	"strings"

	"pinakes/api"
)

// Record returns a copy of a record.
func Record(r api.Record) api.Record {
	r.Fields = slices.Clone(r.Fields)
	for i, f := range r.Fields {
		r.Fields[i] = Field(f)
	}
	return r
}

// Field returns a copy of a field.
func Field(f api.Field) api.Field {
	f.Tag, f.Ind, f.Data = strings.Clone(f.Tag), strings.Clone(f.Ind), strings.Clone(f.Data)
	f.Subs = slices.Clone(f.Subs)
	for i, s := range f.Subs {
		f.Subs[i].Text = strings.Clone(s.Text)
	}
	return f
}
