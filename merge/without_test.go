package merge_test

import (
	"math"
	"testing"

	"pinakes/api"
)

// P7.3: a source that has nothing, all and some of the versions.
func TestWithout(t *testing.T) {
	a, b, c := version(1, 1, 1, plain("245", "a")), version(2, 1, 1, plain("245", "b")), version(1, 2, 1)
	expectWithout(t, nil, 1)
	expectWithout(t, []api.Version{}, 1)
	for _, source := range []int{3, 0, -1, 1 << 32, math.MaxInt, math.MinInt} {
		expectWithout(t, nil, source)
		expectWithout(t, []api.Version{c, b, a}, source, c, b, a)
	}
	expectWithout(t, []api.Version{c, b, a}, 1, b)
	expectWithout(t, []api.Version{c, b, a}, 2, c, a)
	expectWithout(t, []api.Version{a, c, a}, 1)
	expectWithout(t, []api.Version{b}, 2)
	expectWithout(t, []api.Version{b}, 1, b)
	expectWithout(t, []api.Version{{}}, 0)
	expectWithout(t, []api.Version{{}}, 1, api.Version{})
}

// P7.3: the order of the list stays, and so do versions that do not count, or that are there twice.
func TestOrderOfWithout(t *testing.T) {
	old, recent, same := version(2, 1, 1, plain("245", "old")), version(2, 1, 2, plain("245", "recent")), version(2, 1, 2, plain("245", "same"))
	early, late := version(1, 1, 1, plain("245", "early")), version(9, 1, 1, plain("245", "late"))
	expectWithout(t, []api.Version{late, same, early, old, recent, old}, 1, late, same, old, recent, old)
	expectWithout(t, []api.Version{late, recent, early, same, early}, 2, late, early, early)
	expectWithout(t, []api.Version{old, recent, same, late, old}, 9, old, recent, same, old)
}

// P7.3: the Source counts, not the Number of the record or of the version.
func TestNumbersThatAreNoSources(t *testing.T) {
	v := version(5, 6, 7, plain("245", "5"))
	expectWithout(t, []api.Version{v}, 6, v)
	expectWithout(t, []api.Version{v}, 7, v)
	expectWithout(t, []api.Version{v}, -5, v)
	expectWithout(t, []api.Version{v}, 5+1<<32, v)
	expectWithout(t, []api.Version{v}, 5)
	for _, source := range []int{math.MaxInt, math.MinInt, -1} {
		w := version(source, source, source)
		expectWithout(t, []api.Version{w, v, w}, source, v)
		expectWithout(t, []api.Version{w, v, w}, 5, w, w)
	}
}
