package merge

import (
	"cmp"
	"slices"
	"strings"

	"pinakes/api"
)

// latest returns the versions that count, ordered by their records. What they consist of is not copied.
func latest(l []api.Version) []api.Version {
	greatest := map[api.Rec]api.Version{}
	for _, v := range l {
		known, there := greatest[v.From]
		if !there || v.Number > known.Number {
			greatest[v.From] = v
		}
	}
	versions := make([]api.Version, 0, len(greatest))
	for _, v := range greatest {
		versions = append(versions, v)
	}
	slices.SortFunc(versions, func(v, w api.Version) int { return compareRecs(v.From, w.From) })
	return versions
}

func compareRecs(a, b api.Rec) int {
	return cmp.Or(cmp.Compare(a.Source, b.Source), cmp.Compare(a.Number, b.Number))
}

// copyOfVersion returns a version that shares no memory with v. Nor do its fields share memory with each other, even if those of v do.
func copyOfVersion(v api.Version) api.Version {
	v.Record.Fields = slices.Clone(v.Record.Fields)
	for i, f := range v.Record.Fields {
		v.Record.Fields[i] = copyOfField(f)
	}
	return v
}

func copyOfField(f api.Field) api.Field {
	f.Tag, f.Ind, f.Data = strings.Clone(f.Tag), strings.Clone(f.Ind), strings.Clone(f.Data)
	f.Subs = slices.Clone(f.Subs)
	for i, s := range f.Subs {
		f.Subs[i].Text = strings.Clone(s.Text)
	}
	return f
}
