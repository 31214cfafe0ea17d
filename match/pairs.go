package match

import (
	"cmp"
	"slices"

	"pinakes/api"
	"pinakes/keys"
)

// pair is two records of a list, by their indices.
type pair struct{ first, second int }

// Pairs returns the pairs of records that describe the same and have a key in common, by their indices in the list.
func Pairs(l []api.Record) [][2]int {
	all := make([]features, len(l))
	for i, r := range l {
		all[i] = featuresOf(r)
	}
	keysOf, holders := indexByKeys(l)
	found := make([][][2]int, len(l))
	for i := range l {
		found[i] = pairsFrom(i, all, keysOf[i], holders)
	}
	return slices.Concat(found...)
}

// indexByKeys returns the keys of each record, and the records with each key.
func indexByKeys(l []api.Record) (keysOf [][]string, holders map[string][]int) {
	keysOf, holders = make([][]string, len(l)), map[string][]int{}
	for i, r := range l {
		keysOf[i] = keys.All(r)
		for _, key := range keysOf[i] {
			holders[key] = append(holders[key], i)
		}
	}
	return keysOf, holders
}

// pairsFrom returns the pairs of a record with those behind it, in order. They are gathered in a map, as two records may have several keys in common. As there is a map for each record, it stays small even if all records of the list are the same.
func pairsFrom(i int, all []features, keysOf []string, holders map[string][]int) [][2]int {
	gathered := map[pair]bool{}
	for _, key := range keysOf {
		for _, k := range holders[key] {
			p := pair{i, k}
			if i < k && !gathered[p] && points(all[i], all[k]) >= enough {
				gathered[p] = true
			}
		}
	}
	found := make([][2]int, 0, len(gathered))
	for p := range gathered {
		found = append(found, [2]int{p.first, p.second})
	}
	slices.SortFunc(found, func(p, q [2]int) int { return cmp.Compare(p[1], q[1]) })
	return found
}
