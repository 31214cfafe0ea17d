package merge_test

import (
	"math"
	"testing"

	"pinakes/api"
)

// P7.1: lists without versions, and with one; nil and empty lists.
func TestLatestOfFewVersions(t *testing.T) {
	expectLatest(t, nil)
	expectLatest(t, []api.Version{})
	expectLatest(t, []api.Version{{}}, api.Version{})
	v := version(1, 2, 3, plain("245", "Emma"), control("001", "x"))
	expectLatest(t, []api.Version{v}, v)
	empty := version(1, 2, 3)
	expectLatest(t, []api.Version{empty}, empty)
	empty.Record.Fields = []api.Field{}
	expectLatest(t, []api.Version{empty}, version(1, 2, 3))
	expectLatest(t, []api.Version{version(1, 2, 3, api.Field{Subs: []api.Sub{}})}, version(1, 2, 3, api.Field{}))
}

// P7.1: the version with the greatest number counts, wherever it stands in the list.
func TestVersionsOfOneRecord(t *testing.T) {
	numbers := []int{math.MinInt, math.MinInt + 1, -1 << 32, -2, -1, 0, 1, 2, 1 << 32, math.MaxInt - 1, math.MaxInt}
	for i, less := range numbers {
		for _, greater := range numbers[i+1:] {
			older, newer := version(4, 5, less, plain("500", "older")), version(4, 5, greater, plain("500", "newer"))
			expectLatest(t, []api.Version{older, newer}, newer)
			expectLatest(t, []api.Version{newer, older}, newer)
			expectLatest(t, []api.Version{older, newer, older, older}, newer)
			middle := version(4, 5, less/2+greater/2, plain("500", "middle"))
			for _, l := range [][]api.Version{{middle, older, newer}, {newer, middle, older}, {older, newer, middle}} {
				expectDefined(t, l)
			}
		}
	}
}

// P7.1: among versions of one record with the same number, the first one counts.
func TestEqualNumbers(t *testing.T) {
	for _, number := range []int{0, 1, -1, math.MaxInt, math.MinInt} {
		a, b, c := version(1, 1, number, plain("500", "a")), version(1, 1, number, plain("500", "b")), version(1, 1, number)
		expectLatest(t, []api.Version{a, b}, a)
		expectLatest(t, []api.Version{b, a}, b)
		expectLatest(t, []api.Version{c, a, b, a}, c)
		expectLatest(t, []api.Version{a, a}, a)
		other := version(1, 2, number, plain("500", "other"))
		expectLatest(t, []api.Version{other, b, a, other, b}, b, other)
	}
	old, first, second := version(1, 1, -7), version(1, 1, 6, plain("500", "first")), version(1, 1, 6, plain("500", "second"))
	expectLatest(t, []api.Version{old, first, second, old}, first)
	expectLatest(t, []api.Version{second, old, first}, second)
}

// P7.1: records that differ in Source alone, or in Number alone, do not touch each other, whatever the numbers of their versions are.
func TestVersionsOfDifferentRecords(t *testing.T) {
	places := []int{math.MinInt, math.MinInt + 1, -1, 0, 1, 2, 10, 1 << 32, math.MaxInt}
	for i, less := range places {
		for _, greater := range places[i+1:] {
			for _, numbers := range [][2]int{{1, 1}, {1, 2}, {2, 1}, {math.MinInt, math.MaxInt}, {math.MaxInt, math.MinInt}} {
				a, b := version(less, 7, numbers[0]), version(greater, 7, numbers[1])
				expectLatest(t, []api.Version{a, b}, a, b)
				expectLatest(t, []api.Version{b, a}, a, b)
				a, b = version(7, less, numbers[0]), version(7, greater, numbers[1])
				expectLatest(t, []api.Version{a, b}, a, b)
				expectLatest(t, []api.Version{b, a, b, a}, a, b)
				// Source comes before Number.
				a, b = version(less, greater, numbers[0]), version(greater, less, numbers[1])
				expectLatest(t, []api.Version{b, a}, a, b)
			}
		}
	}
	a, b, c, d := version(1, 9, 1), version(2, 1, 1), version(2, 10, 1), version(10, 0, 1)
	expectLatest(t, []api.Version{d, b, c, a}, a, b, c, d)
	expectLatest(t, []api.Version{c, d, a, b}, a, b, c, d)
}

// R3: versions that share memory with each other have copies that do not.
func TestLatestOfSharedMemory(t *testing.T) {
	f := field("650", "  ", "aSea", "xstories")
	v := version(1, 1, 1, f, f, plain("245", "Emma"), f)
	w := v
	w.From = rec(2, 1)
	part := version(3, 1, 1)
	part.Record.Fields = v.Record.Fields[:2]
	expectLatest(t, []api.Version{part, w, v}, v, w, part)
	expectWithout(t, []api.Version{part, w, v, v}, 2, part, v, v)
	expectMerged(t, []api.Version{part, w, v}, v, by(1, 1, plain("245", "Emma"), f))
	local := version(1, 1, 1, field("900", "  ", "aSea", "xstories"))
	other := local
	other.From = rec(1, 2)
	expectMerged(t, []api.Version{local, other}, local, by(1, 1, local.Record.Fields...), by(1, 2, local.Record.Fields...))
}

// P1: long lists.
func TestLatestOfLongLists(t *testing.T) {
	const size = 1 << 16
	var same, different, want []api.Version
	for i := range size {
		same = append(same, version(1, 1, i^21845))
		different = append(different, version(i^43690, 1, -i))
		want = append(want, version(i, 1, -(i^43690)))
	}
	expectLatest(t, same, version(1, 1, size-1))
	expectLatest(t, different, want...)
	expectLatest(t, append(different, want...), want...)
	expectWithout(t, same, 2, same...)
	expectWithout(t, same, 1)
}
