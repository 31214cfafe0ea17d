package merge

import (
	"slices"
	"strings"

	"pinakes/api"
	"pinakes/keys"
)

// statement is a field with the record that says it.
type statement struct {
	field api.Field
	from  api.Rec
}

// statementsByTags returns all tags of the versions, in order, and the statements with each of them, in the order of the versions.
func statementsByTags(versions []api.Version) (tags []string, said map[string][]statement) {
	said = map[string][]statement{}
	for _, v := range versions {
		for _, f := range v.Record.Fields {
			if len(said[f.Tag]) == 0 {
				tags = append(tags, f.Tag)
			}
			said[f.Tag] = append(said[f.Tag], statement{f, v.From})
		}
	}
	slices.Sort(tags)
	return tags, said
}

// likeness is what is the same for fields that are alike, apart from their tag.
type likeness struct {
	data, codes, texts string
}

// textEnd stands behind each text of a likeness: no folded text contains it.
const textEnd = 0

func likenessOf(f api.Field) likeness {
	var codes, texts strings.Builder
	for _, s := range f.Subs {
		codes.WriteByte(s.Code)
		texts.WriteString(keys.Fold(s.Text))
		texts.WriteByte(textEnd)
	}
	return likeness{f.Data, codes.String(), texts.String()}
}
