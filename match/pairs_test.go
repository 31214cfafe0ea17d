package match_test

import (
	"slices"
	"strconv"
	"testing"

	"pinakes/api"
	"pinakes/match"
	"pinakes/sample"
)

// P6.3: the examples of the chapter.
func TestExamplesOfPairs(t *testing.T) {
	a, b, c := exampleA(), exampleB(), exampleC()
	expectPairs(t, []api.Record{a, b, a}, [2]int{0, 2})
	expectPairs(t, []api.Record{a, b, c, a}, [2]int{0, 3})
}

// P6.3: lists without records, and with one.
func TestPairsOfFewRecords(t *testing.T) {
	expectPairs(t, nil)
	expectPairs(t, []api.Record{})
	expectPairs(t, []api.Record{exampleA()})
	expectPairs(t, []api.Record{{}})
	expectPairs(t, []api.Record{{}, {}})
	expectPairs(t, []api.Record{exampleA(), exampleA()}, [2]int{0, 1})
}

// P6.3: equal records are all pairs, each once, in order, also if they have several keys in common.
func TestPairsOfEqualRecords(t *testing.T) {
	r := record(numbers(one, two, three), title("X"), author("Y"))
	expectPairs(t, []api.Record{r, r, r, r}, [2]int{0, 1}, [2]int{0, 2}, [2]int{0, 3}, [2]int{1, 2}, [2]int{1, 3}, [2]int{2, 3})
	r = record(title("X"), author("Y"))
	expectPairs(t, []api.Record{r, r, r}, [2]int{0, 1}, [2]int{0, 2}, [2]int{1, 2})
}

// P6.3: a key in common, but too few points.
func TestPairsWithTooFewPoints(t *testing.T) {
	for _, x := range []struct {
		a, b   api.Record
		points int
	}{
		{record(title("X")), record(title("x.")), 30},
		{record(title("X"), author("Y Z")), record(title("X"), author("Y")), 38},
		{record(title("X"), year("1984")), record(title("X"), year("1985")), 30},
		{record(title("X"), author("Y"), year("1984")), record(title("X"), author("Y"), year("1986")), 35},
		{record(title("X"), author("Y")), record(title("X"), author("Y"), numbers(one)), 45},
		{record(numbers(two), title("X"), author("Y")), record(title("X"), author("Y"), numbers(one)), 15},
		{exampleA(), exampleC(), 10},
		{record(numbers(one), title("X"), author("Y")), record(numbers(oneShort), title("V"), author("W")), 15},
		{record(numbers(one), title("X"), author("Y")), withKind('m', record(numbers(one), title("X"), author("Y"))), 55},
		{record(title("X"), author("Y")), withKind('m', record(title("X"), author("Y"))), 5},
	} {
		if !haveKeyInCommon(x.a, x.b) {
			t.Errorf("%s and %s have no key in common", shown(x.a), shown(x.b))
		}
		expectPoints(t, x.a, x.b, x.points)
		expectPair(t, x.a, x.b, x.points >= 40)
	}
}

// P6.3: enough points, but no key in common, as one of them has no author.
func TestPairsWithoutCommonKey(t *testing.T) {
	known := record(title("X"), author("Y Z"), year("1984"))
	for _, other := range []api.Record{record(title("X"), year("1984")), record(title("X"), author("-"), published("1984"))} {
		if haveKeyInCommon(known, other) {
			t.Errorf("%s and %s have a key in common", shown(known), shown(other))
		}
		expectPoints(t, known, other, 40)
		expectPair(t, known, other, false)
		expectPair(t, known, known, true)
		expectPair(t, other, other, true)
		// With a book number, they have one.
		with := func(r api.Record) api.Record {
			r = sample.CopyOf(r)
			r.Fields = append(r.Fields, numbers(three, one))
			return r
		}
		expectPair(t, with(known), other, false)
		expectPair(t, with(known), with(other), true)
	}
}

// expectPair checks two records in both orders, alone and among others.
func expectPair(t *testing.T, a, b api.Record, isPair bool) {
	t.Helper()
	other := record(numbers("9780140447934"), title("other"))
	for _, l := range [][]api.Record{{a, b}, {b, a}} {
		if isPair {
			expectPairs(t, l, [2]int{0, 1})
			expectPairs(t, []api.Record{other, {}, l[0], {}, l[1]}, [2]int{2, 4})
		} else {
			expectPairs(t, l)
			expectPairs(t, []api.Record{other, {}, l[0], {}, l[1]})
		}
	}
}

// P6.3: what is the same as a second record, and this one as a third one, need not be a pair.
func TestPairsAreNoParts(t *testing.T) {
	a, b, c := record(numbers(one)), record(numbers(one, two)), record(numbers(two))
	expectPairs(t, []api.Record{a, b, c}, [2]int{0, 1}, [2]int{1, 2})
	expectPairs(t, []api.Record{b, a, c}, [2]int{0, 1}, [2]int{0, 2})
	expectPairs(t, []api.Record{a, c, b}, [2]int{0, 2}, [2]int{1, 2})
	expectPairs(t, []api.Record{c, a, b, c, a}, [2]int{0, 2}, [2]int{0, 3}, [2]int{1, 2}, [2]int{1, 4}, [2]int{2, 3}, [2]int{2, 4})
}

// P6.3: the order is that of numbers, not that of keys, or of how many keys there are in common.
func TestOrderOfPairs(t *testing.T) {
	both := record(numbers(one, two))
	l := []api.Record{both}
	var want [][2]int
	for k := 1; k <= 24; k++ {
		l = append(l, record(numbers([]string{two, one}[k%2])))
	}
	for k := 1; k <= 24; k++ {
		want = append(want, [2]int{0, k})
	}
	for i := 1; i <= 24; i++ {
		for k := i + 2; k <= 24; k += 2 {
			want = append(want, [2]int{i, k})
		}
	}
	expectPairs(t, l, want...)
	for range 4 {
		expectPairs(t, l[1:3])
	}
}

// P6.3, P1: arbitrary lists. R3: they are not changed.
func TestArbitraryPairs(t *testing.T) {
	q := sample.Sequence(81)
	most, keyless, pointless := 0, 0, 0
	for range 1500 {
		l := someList(&q)
		want := pairsByDefinition(l)
		expectPairs(t, l, want...)
		most = max(most, len(want))
		for i := range l {
			for k := range i {
				if enough, common := match.Same(l[k], l[i]), haveKeyInCommon(l[k], l[i]); enough != common {
					if enough {
						keyless++
					} else {
						pointless++
					}
				}
			}
		}
	}
	if most < 20 || keyless < 25 || pointless < 100 {
		t.Errorf("at most %d pairs, %d without a key in common, %d with too few points", most, keyless, pointless)
	}
}

// someList makes a list of records, of which many are made from another one.
func someList(q *sample.Sequence) []api.Record {
	var l []api.Record
	for range q.Below(12) {
		if len(l) > 0 && q.Below(2) == 0 {
			l = append(l, varied(q, l[q.Below(len(l))]))
		} else {
			l = append(l, someRecord(q))
		}
	}
	return l
}

// P1, P6.3: many equal records; many with keys of their own; many numbers in one record.
func TestManyRecords(t *testing.T) {
	const equals = 1500
	var l []api.Record
	for range equals {
		l = append(l, record(numbers(one, two, three), title("X"), author("Y")))
	}
	got := match.Pairs(l)
	if len(got) != equals*(equals-1)/2 {
		t.Fatalf("%d pairs of %d equal records", len(got), equals)
	}
	place := 0
	for i := range equals {
		for k := i + 1; k < equals; k++ {
			if got[place] != [2]int{i, k} {
				t.Fatalf("the pair %d is %v", place, got[place])
			}
			place++
		}
	}
	const many = 50000
	all := record(title("all"))
	l = nil
	for n := range many {
		number := longNumber(n)
		all.Fields = append(all.Fields, numbers(number))
		l = append(l, record(numbers(number), title("part "+strconv.Itoa(n%4999))))
	}
	expectPairs(t, l)
	l = append(l, record(numbers(longNumber(7)), title("part 7")), all)
	if got, want := match.Pairs(l), [][2]int{{7, many}}; !slices.Equal(got, want) {
		t.Errorf("pairs of many records: %v, want %v", got, want)
	}
	all.Fields = all.Fields[1:]
	l = append(l, all)
	if got := match.Pairs(l); len(got) != 1+many+2 || got[0] != [2]int{0, many + 2} {
		t.Errorf("%d pairs of many records with one that has the numbers of all", len(got))
	}
}

// longNumber returns the book number that stands for n.
func longNumber(n int) string {
	digits := strconv.Itoa(978_000000000 + n)
	sum := 0
	for i, digit := range []byte(digits) {
		sum += []int{1, 3}[i%2] * int(digit-'0')
	}
	return digits + strconv.Itoa((10-sum%10)%10)
}
