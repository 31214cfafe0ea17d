package match_test

import (
	"math"
	"slices"
	"testing"

	"pinakes/match"
	"pinakes/sample"
)

// P6.4: the example of the chapter.
func TestExampleOfParts(t *testing.T) {
	expectParts(t, 5, [][2]int{{3, 1}, {4, 3}, {7, 0}}, []int{0}, []int{1, 3, 4}, []int{2})
}

// P6.4: n below zero, zero and 1: there are no parts, or there is one.
func TestFewNumbers(t *testing.T) {
	for _, pairs := range [][][2]int{nil, {}, {{0, 0}}, {{0, 1}}, {{-1, 0}, {0, -1}}, {{-1, -1}, {-2, 1}}, {{1, 1}}, {{1, 2}, {2, 0}}} {
		for _, n := range []int{0, -1, -2, -7, math.MinInt} {
			expectParts(t, n, pairs)
		}
		expectParts(t, 1, pairs, []int{0})
	}
}

// P6.4: without pairs, each number is a part.
func TestPartsWithoutPairs(t *testing.T) {
	expectParts(t, 2, nil, []int{0}, []int{1})
	expectParts(t, 3, nil, []int{0}, []int{1}, []int{2})
	expectParts(t, 3, [][2]int{}, []int{0}, []int{1}, []int{2})
}

// P6.4: pairs with numbers below zero, of n, and above it play no part, also if they would lead from one number to another one.
func TestPairsThatPlayNoPart(t *testing.T) {
	for _, wrong := range []int{-1, -2, 3, 4, 7, math.MaxInt, math.MinInt, 1 << 32, -1 << 32} {
		expectParts(t, 3, [][2]int{{0, wrong}, {wrong, 2}}, []int{0}, []int{1}, []int{2})
		expectParts(t, 3, [][2]int{{wrong, 0}, {1, wrong}, {wrong, wrong}}, []int{0}, []int{1}, []int{2})
		expectParts(t, 3, [][2]int{{wrong, 0}, {2, 0}, {1, wrong}}, []int{0, 2}, []int{1})
	}
}

// P6.4: pairs of a number with itself, and pairs that occur twice and in both orders.
func TestPairsThatChangeNothing(t *testing.T) {
	expectParts(t, 3, [][2]int{{0, 0}, {1, 1}, {2, 2}}, []int{0}, []int{1}, []int{2})
	for _, pairs := range [][][2]int{
		{{0, 2}},
		{{2, 0}},
		{{0, 2}, {0, 2}},
		{{0, 2}, {2, 0}},
		{{2, 0}, {2, 0}, {0, 2}},
		{{2, 2}, {2, 0}, {0, 0}, {2, 0}},
	} {
		expectParts(t, 4, pairs, []int{0, 2}, []int{1}, []int{3})
	}
}

// P6.4: chains and circles, whatever the order of their pairs.
func TestChainsAndCircles(t *testing.T) {
	all := []int{0, 1, 2, 3, 4, 5}
	for _, pairs := range [][][2]int{
		{{0, 1}, {1, 2}, {2, 3}, {3, 4}, {4, 5}},
		{{4, 5}, {3, 4}, {2, 3}, {1, 2}, {0, 1}},
		{{5, 4}, {4, 3}, {3, 2}, {2, 1}, {1, 0}},
		{{0, 1}, {2, 3}, {4, 5}, {1, 2}, {3, 4}},
		{{5, 0}, {4, 1}, {3, 2}, {5, 4}, {1, 2}},
		{{0, 1}, {1, 2}, {2, 3}, {3, 4}, {4, 5}, {5, 0}},
		{{5, 0}, {5, 1}, {5, 2}, {5, 3}, {5, 4}},
		{{0, 5}, {0, 1}, {0, 3}, {0, 2}, {0, 4}},
		{{4, 5}, {5, 3}, {3, 4}, {0, 1}, {1, 2}, {2, 0}, {2, 5}},
	} {
		expectParts(t, 6, pairs, all)
		slices.Reverse(pairs)
		expectParts(t, 6, pairs, all)
		expectParts(t, 8, pairs, all, []int{6}, []int{7})
	}
	expectParts(t, 6, [][2]int{{5, 3}, {3, 1}, {1, 5}, {4, 2}, {0, 4}, {2, 0}}, []int{0, 2, 4}, []int{1, 3, 5})
	expectParts(t, 6, [][2]int{{5, 3}, {4, 2}}, []int{0}, []int{1}, []int{2, 4}, []int{3, 5})
}

// P6.4: the parts are in the order of their least numbers, whatever the other ones are.
func TestOrderOfParts(t *testing.T) {
	expectParts(t, 6, [][2]int{{0, 5}, {1, 4}, {2, 3}}, []int{0, 5}, []int{1, 4}, []int{2, 3})
	expectParts(t, 6, [][2]int{{3, 2}, {4, 1}, {5, 0}}, []int{0, 5}, []int{1, 4}, []int{2, 3})
	expectParts(t, 7, [][2]int{{6, 5}, {2, 6}, {4, 3}}, []int{0}, []int{1}, []int{2, 5, 6}, []int{3, 4})
}

// P6.4: all lists of three pairs of numbers from -1 to 3, for n from -1 to 4.
func TestAllShortLists(t *testing.T) {
	var pairs [][2]int
	for i := -1; i < 4; i++ {
		for k := -1; k < 4; k++ {
			pairs = append(pairs, [2]int{i, k})
		}
	}
	for n := -1; n <= 4; n++ {
		for _, first := range pairs {
			for _, second := range pairs {
				for _, third := range pairs {
					list := [][2]int{first, second, third}
					if got, want := match.Parts(n, list), partsByDefinition(max(n, 0), list); !slices.EqualFunc(got, want, slices.Equal) {
						t.Errorf("Parts of %d and %v: %v, want %v", n, list, got, want)
					}
				}
			}
		}
	}
}

// P6.4, P1: arbitrary pairs. R3: they are not changed.
func TestArbitraryParts(t *testing.T) {
	q := sample.Sequence(82)
	counts := map[int]int{}
	for range 20000 {
		n := q.Below(14) - 1
		var pairs [][2]int
		for range q.Below(14) {
			pairs = append(pairs, [2]int{someIndex(&q, n), someIndex(&q, n)})
		}
		want := partsByDefinition(max(n, 0), pairs)
		expectParts(t, n, pairs, want...)
		counts[len(want)]++
	}
	for parts := range 10 {
		if counts[parts] < 100 {
			t.Errorf("%d parts occurred %d times", parts, counts[parts])
		}
	}
}

// someIndex makes an index of a list of length n, and at times a wrong one.
func someIndex(q *sample.Sequence, n int) int {
	switch q.Below(12) {
	case 0:
		return n
	case 1:
		return q.Integer()
	case 2:
		return -1
	}
	return q.Below(max(n, 1))
}

// P1, P6.4: long chains, in several orders, and many parts.
func TestManyNumbers(t *testing.T) {
	const size = 1 << 19
	whole := make([]int, size)
	for k := range whole {
		whole[k] = k
	}
	forward := make([][2]int, size-1)
	for k := range forward {
		forward[k] = [2]int{k, k + 1}
	}
	backward, mixed := slices.Clone(forward), slices.Clone(forward)
	slices.Reverse(backward)
	q := sample.Sequence(83)
	shuffle(&q, len(mixed), func(i, k int) { mixed[i], mixed[k] = mixed[k], mixed[i] })
	for _, pairs := range [][][2]int{forward, backward, mixed} {
		expectParts(t, size, pairs, whole)
	}
	star := make([][2]int, size-1)
	for k := range star {
		star[k] = [2]int{size - 1, size - 2 - k}
	}
	expectParts(t, size, star, whole)
	halves := make([][2]int, size/2)
	for k := range halves {
		halves[k] = [2]int{k + size/2, k}
	}
	parts := match.Parts(size, halves)
	for k, part := range parts {
		if !slices.Equal(part, []int{k, k + size/2}) {
			t.Fatalf("the part %d is %v", k, part)
		}
	}
	if len(parts) != size/2 {
		t.Errorf("%d parts", len(parts))
	}
}

// P1: numbers of which the document promises nothing but that there is no panic, as no memory would hold the parts.
func TestTooManyNumbers(t *testing.T) {
	for _, n := range []int{math.MaxInt, math.MaxInt - 1, math.MaxInt / 8, 1 << 48, 1 << 40, math.MaxInt32 + 1} {
		expectParts(t, n, [][2]int{{0, 1}, {n - 1, n}, {-1, n - 2}})
		expectParts(t, n, nil)
	}
}
