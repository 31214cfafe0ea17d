// Package fields finds texts in the fields of records.
package fields

import (
	"iter"
	"strings"

	"pinakes/api"
)

// First returns the first field with a tag. If there is none, the empty field stands for it, whose texts are empty, too.
func First(r api.Record, tag string) api.Field {
	for _, f := range r.Fields {
		if f.Tag == tag {
			return f
		}
	}
	return api.Field{}
}

// Text returns the texts of all subfields with some codes, joined with blanks.
func Text(f api.Field, codes string) string {
	var texts []string
	for _, s := range f.Subs {
		if strings.IndexByte(codes, s.Code) >= 0 {
			texts = append(texts, s.Text)
		}
	}
	return strings.Join(texts, " ")
}

// Texts visits the text of each subfield with a code of each field with a tag.
func Texts(r api.Record, tag string, code byte) iter.Seq[string] {
	return func(yield func(string) bool) {
		for _, f := range r.Fields {
			if f.Tag != tag {
				continue
			}
			for _, s := range f.Subs {
				if s.Code == code && !yield(s.Text) {
					return
				}
			}
		}
	}
}
