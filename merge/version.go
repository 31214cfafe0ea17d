package merge

import (
	"cmp"
	"slices"

	"pinakes/api"
	"pinakes/copies"
)

// latest returns the versions that count, ordered by their records. What they consist of is not copied.
func latest(l []api.Version) []api.Version {
	greatest := map[api.Rec]api.Version{}
	for _, v := range l {
		known, there := greatest[v.From]
		if !there || v.Number > known.Number {
			greatest[v.From] = v
		}
	}
	versions := make([]api.Version, 0, len(greatest))
	for _, v := range greatest {
		versions = append(versions, v)
	}
	slices.SortFunc(versions, func(v, w api.Version) int { return compareRecs(v.From, w.From) })
	return versions
}

func compareRecs(a, b api.Rec) int {
	return cmp.Or(cmp.Compare(a.Source, b.Source), cmp.Compare(a.Number, b.Number))
}

// copyOfVersion returns a version that shares no memory with v.
func copyOfVersion(v api.Version) api.Version {
	v.Record = copies.Record(v.Record)
	return v
}
