package match_test

import (
	"strings"
	"testing"

	"pinakes/api"
	"pinakes/match"
	"pinakes/sample"
)

// The records of the examples.
func exampleA() api.Record {
	return record(numbers("9783161484100"), title("The stars"), author("Müller, Anna"))
}

func exampleB() api.Record {
	return record(title("the STARS"), author("Muller"))
}

func exampleC() api.Record {
	return withKind('m', record(numbers("978-3-16-148410-0")))
}

// P6.1, P6.2: the examples of the chapter.
func TestExamplesOfPoints(t *testing.T) {
	a, b, c := exampleA(), exampleB(), exampleC()
	expectPoints(t, a, a, 95)
	expectPoints(t, a, b, 38)
	expectPoints(t, a, c, 10)
	expectPoints(t, b, c, -40)
	if !match.Same(a, a) || match.Same(a, b) {
		t.Error("Same of A and A, or of A and B")
	}
}

// P6.1: what a feature counts, where no other one is there.
func expectCount(t *testing.T, a, b []api.Field, want int) {
	t.Helper()
	expectPoints(t, record(a...), record(b...), want)
	expectPoints(t, withKind('c', record(a...)), record(b...), want-40)
}

const (
	one, oneShort = "9780306406157", "0306406152"
	two, twoShort = "9780804429573", "080442957X"
	three         = "9783161484100"
)

// P6.1: book numbers with an element in common, and without.
func TestBookNumbers(t *testing.T) {
	for _, x := range []struct {
		a, b []api.Field
		want int
	}{
		{[]api.Field{numbers(one)}, []api.Field{numbers(one)}, 50},
		{[]api.Field{numbers(one)}, []api.Field{numbers(two)}, -30},
		// One in common, all of them, none.
		{[]api.Field{numbers(one, two)}, []api.Field{numbers(two, three)}, 50},
		{[]api.Field{numbers(one, two)}, []api.Field{numbers(three, two)}, 50},
		{[]api.Field{numbers(one, two, three)}, []api.Field{numbers(three)}, 50},
		{[]api.Field{numbers(one, two, three)}, []api.Field{numbers(three, one, two)}, 50},
		{[]api.Field{numbers(one, two)}, []api.Field{numbers(three)}, -30},
		{[]api.Field{numbers(one, one, one)}, []api.Field{numbers(two, two), numbers(three)}, -30},
		// As ten and as 13 digits, and with what does not count.
		{[]api.Field{numbers(oneShort)}, []api.Field{numbers(one)}, 50},
		{[]api.Field{numbers(twoShort)}, []api.Field{numbers("0-8044-2957-x (pbk.)")}, 50},
		{[]api.Field{numbers(twoShort)}, []api.Field{numbers("978-0-8044-2957-3 :")}, 50},
		{[]api.Field{numbers(twoShort)}, []api.Field{numbers(oneShort)}, -30},
		// Several fields, and several subfields; not the first ones alone.
		{[]api.Field{numbers(one), numbers(two)}, []api.Field{numbers(three), numbers(twoShort)}, 50},
		{[]api.Field{numbers(one), title("-"), numbers(), numbers(two)}, []api.Field{numbers(two)}, 50},
		{[]api.Field{numbers("1", "", "978", one)}, []api.Field{numbers("1"), numbers(""), numbers("978"), numbers(oneShort)}, 50},
		{[]api.Field{numbers("1", one)}, []api.Field{numbers("1", two)}, -30},
		{[]api.Field{field("020", "  ", "z"+one, "a"+two)}, []api.Field{field("020", "  ", "z"+one, "a"+three)}, -30},
		{[]api.Field{field("020", "  ", "cX", "a"+two)}, []api.Field{field("020", "", "a"+two, "z"+three)}, 50},
	} {
		expectCount(t, x.a, x.b, x.want)
	}
}

// P6.1: book numbers that are missing in one record, in the other one, or in both.
func TestMissingBookNumbers(t *testing.T) {
	there := []api.Field{numbers(one)}
	for _, missing := range [][]api.Field{
		nil,
		{},
		{{Tag: "020"}},
		{{Tag: "020", Subs: []api.Sub{}}},
		{numbers("")},
		{numbers("0306406153", "9780306406158", "978030640615", "pbk.")},
		{field("020", "  ", "z"+one, "A"+one, "b"+one, "\x00"+one, " "+one)},
		{field("020", "  ", "a97803064", "a06157")},
		{field("021", "  ", "a"+one), field("20", "  ", "a"+one), field("0200", "  ", "a"+one), field("022", "  ", "a"+one), field("", "", "a"+one)},
		{control("020", one)},
	} {
		expectCount(t, there, missing, 0)
		expectCount(t, missing, missing, 0)
		expectCount(t, missing, nil, 0)
	}
}

// P6.1: titles that are equal, also with what is skipped, and others.
func TestTitles(t *testing.T) {
	for _, x := range []struct {
		a, b api.Field
		want int
	}{
		{title("The stars"), title("The stars"), 30},
		{title("The stars"), title("the STARS!"), 30},
		{title("Été à Łódź"), title("ete a lodz"), 30},
		{title("The stars"), title("The star"), -20},
		{title("The stars"), title("Stars, the"), -20},
		{title("The stars"), title("stars"), -20},
		{title("a"), title("b"), -20},
		// What is skipped plays no part.
		{field("245", "14", "aThe stars"), field("245", "04", "aDie stars"), 30},
		{field("245", "14", "aThe stars"), field("245", "13", "aLa stars"), 30},
		{field("245", "14", "aThe stars"), title("stars"), 30},
		{field("245", "14", "aThe stars"), title("The stars"), -20},
		{field("245", "12", "aA star"), field("245", "12", "aA sun"), -20},
		// Both subfields, in one or in two; no other ones.
		{field("245", "00", "aThe stars", "band more"), field("245", "00", "aThe stars and", "bmore"), 30},
		{field("245", "00", "aThe stars", "band more"), title("The stars / and more"), 30},
		{field("245", "00", "aThe stars", "band more"), title("The stars"), -20},
		{field("245", "00", "aThe stars", "cby A"), field("245", "00", "hX", "aThe stars", "cby B"), 30},
		// Numbers by their values.
		{title("Part 007"), title("Part 7"), 30},
		{title("Part 70"), title("Part 7"), -20},
	} {
		expectCount(t, []api.Field{x.a}, []api.Field{x.b}, x.want)
		// The first field of several.
		expectCount(t, []api.Field{x.a, title("X")}, []api.Field{x.b, title("Y")}, x.want)
		expectCount(t, []api.Field{x.a, x.b}, []api.Field{x.b, x.a}, x.want)
		expectCount(t, []api.Field{field("246", "00", "aX"), x.a}, []api.Field{field("240", "00", "aY"), x.b}, x.want)
	}
}

// P6.1: titles that are missing in one record, in the other one, or in both.
func TestMissingTitles(t *testing.T) {
	there := []api.Field{title("The stars")}
	for _, missing := range [][]api.Field{
		nil,
		{{Tag: "245"}},
		{title("")},
		{title(" / ")},
		{title("日本")},
		{field("245", "09", "aThe sta")},
		{field("245", "00", "cThe stars")},
		{control("245", "The stars")},
		{{Tag: "245"}, title("The stars")},
		{field("246", "00", "aThe stars"), field("24", "00", "aThe stars"), field("2450", "00", "aThe stars")},
	} {
		expectCount(t, there, missing, 0)
		expectCount(t, missing, missing, 0)
	}
}

// P6.1: authors with the same words, with the same first word alone, and with another one.
func TestAuthors(t *testing.T) {
	for _, x := range []struct {
		a, b api.Field
		want int
	}{
		{author("Müller, Anna"), author("Müller, Anna"), 15},
		{author("Müller, Anna"), author("MULLER ANNA."), 15},
		{author("Müller"), author("Mu\u0308ller,"), 15},
		{author("Müller, Anna"), author("Müller, A."), 8},
		{author("Müller, Anna"), author("Muller"), 8},
		{author("Müller, Anna"), author("Müller, Anna B."), 8},
		{author("Müller, Anna Berta"), author("Müller, Berta Anna"), 8},
		{author("Müller, Anna"), author("Miller, Anna"), -15},
		{author("Müller, Anna"), author("Mull, Anna"), -15},
		{author("Müller, Anna"), author("Anna Müller"), -15},
		{author("Müller, Anna"), author("Mueller, Anna"), -15},
		{author("a"), author("b"), -15},
		{author("O'Neill"), author("O Neill"), 15},
		{author("O'Neill"), author("ONeill"), -15},
		// Words are no collation keys.
		{author("Agent 007"), author("Agent 7"), 8},
		{author("007"), author("7"), -15},
		// No bytes are skipped.
		{field("100", "14", "aThe Prince"), field("100", "14", "aDie Prince"), -15},
		{field("100", "14", "aThe Prince"), author("The Prince"), 15},
		// Several subfields, in one or in two; no other ones.
		{field("100", "1 ", "aMüller,", "aAnna"), author("Müller, Anna"), 15},
		{field("100", "1 ", "aMül", "aler"), author("Müller"), -15},
		{field("100", "1 ", "aMüller", "a\u0308Anna"), author("Müller, Anna"), 15},
		{field("100", "1 ", "a", "a.", "aMüller"), author("Müller"), 15},
		{field("100", "1 ", "aMüller", "bII", "d1900", "AX"), field("100", "0 ", "cX", "aMüller", "d1950"), 15},
		{field("100", "1 ", "bMüller", "aX"), field("100", "1 ", "bMüller", "aY"), -15},
	} {
		expectCount(t, []api.Field{x.a}, []api.Field{x.b}, x.want)
		// The first field of several.
		expectCount(t, []api.Field{x.a, author("X")}, []api.Field{x.b, author("Y")}, x.want)
		expectCount(t, []api.Field{x.a, x.b}, []api.Field{x.b, x.a}, x.want)
		expectCount(t, []api.Field{field("110", "1 ", "aX"), field("700", "1 ", "aX"), x.a}, []api.Field{field("10", "1 ", "aY"), x.b}, x.want)
	}
}

// P6.1: authors that are missing in one record, in the other one, or in both: also texts without a word.
func TestMissingAuthors(t *testing.T) {
	there := []api.Field{author("Müller, Anna")}
	for _, missing := range [][]api.Field{
		nil,
		{{Tag: "100"}},
		{author("")},
		{author(" ., \u0301-")},
		{author("日本")},
		{author("\xff\xc3")},
		{field("100", "1 ", "bMüller", "A-")},
		{control("100", "Müller, Anna")},
		{{Tag: "100"}, author("Müller, Anna")},
		{author("-"), author("Müller, Anna")},
		{field("110", "1 ", "aMüller, Anna"), field("700", "1 ", "aMüller, Anna"), field("1000", "1 ", "aMüller, Anna")},
	} {
		expectCount(t, there, missing, 0)
		expectCount(t, missing, missing, 0)
	}
}

// P6.1, P6.5: kinds that are equal, and others; Level plays no part.
func TestKinds(t *testing.T) {
	for a := range 256 {
		for b := range 256 {
			want := -40
			if a == b {
				want = 0
			}
			x, y := api.Record{Kind: byte(a), Level: 'm'}, api.Record{Kind: byte(b), Level: byte(a)}
			if got := match.Points(x, y); got != want {
				t.Errorf("Points of the kinds %d and %d: %d", a, b, got)
			}
		}
	}
	expectPoints(t, api.Record{}, api.Record{}, 0)
	expectPoints(t, api.Record{}, api.Record{Fields: []api.Field{}}, 0)
	expectPoints(t, api.Record{}, record(), -40)
	a := exampleA()
	expectPoints(t, a, withKind('c', a), 55)
	expectPoints(t, a, withKind(0, a), 55)
}

// P6.1, P6.2: the sums of all features: each of them equal, different, or missing, and so on.
func TestSums(t *testing.T) {
	type choice struct {
		a, b []api.Field
		want int
	}
	list := func(f ...api.Field) []api.Field { return f }
	numbersOf := []choice{{nil, nil, 0}, {list(numbers(one)), nil, 0}, {nil, list(numbers(one)), 0}, {list(numbers(one, two)), list(numbers(twoShort)), 50}, {list(numbers(one)), list(numbers(two)), -30}}
	titles := []choice{{nil, nil, 0}, {list(title("X")), nil, 0}, {list(title("X")), list(title("x.")), 30}, {list(title("X")), list(title("Y")), -20}}
	authors := []choice{{nil, nil, 0}, {nil, list(author("X")), 0}, {list(author("X")), list(author("x.")), 15}, {list(author("X Y")), list(author("X")), 8}, {list(author("X Y")), list(author("Y")), -15}}
	years := []choice{{nil, nil, 0}, {list(year("1984")), nil, 0}, {list(year("1984")), list(published("1984")), 10}, {list(year("1984")), list(year("1985")), 0}, {list(year("1984")), list(year("1982")), -10}}
	seen := map[int]bool{}
	for _, n := range numbersOf {
		for _, ti := range titles {
			for _, au := range authors {
				for _, y := range years {
					a := record(append(append(append(append(list(), n.a...), ti.a...), au.a...), y.a...)...)
					b := record(append(append(append(append(list(), y.b...), au.b...), ti.b...), n.b...)...)
					want := n.want + ti.want + au.want + y.want
					expectPoints(t, a, b, want)
					expectPoints(t, a, withKind('m', b), want-40)
					seen[want] = true
				}
			}
		}
	}
	// The sums next to 40 among them: 39 and 41 are none.
	if !seen[105] || !seen[-75] || !seen[38] || !seen[40] || !seen[45] || seen[39] || seen[41] {
		t.Errorf("the sums %v", seen)
	}
}

// P6.2: from 40 points on, records are the same. There are no 39 and 41 points: 38, 40 and 43 are next to them.
func TestSameAtItsBorder(t *testing.T) {
	full := record(numbers(one), title("X"), author("Y Z"), year("1984"))
	for _, x := range []struct {
		b    api.Record
		want int
	}{
		{record(title("X"), author("Y")), 38},
		{record(title("X"), year("1984")), 40},
		{record(numbers(one), year("1990")), 40},
		{record(title("X"), author("Y Z"), year("1990")), 35},
		{record(title("X"), author("Y"), year("1984")), 48},
		{record(numbers(one), title("W"), author("Y"), year("1985")), 38},
		{record(numbers(one), title("W"), year("1984")), 40},
		{record(numbers(one), author("V"), year("1985")), 35},
		{record(numbers(one), title("X"), author("V"), year("1990")), 55},
		{record(numbers(one), title("W"), author("Y Z")), 45},
		{record(title("X"), author("Y Z")), 45},
		{withKind('m', record(numbers(one), title("X"))), 40},
		{withKind('m', record(numbers(one), title("X"), author("Y"))), 48},
		{withKind('m', record(numbers(one), title("X"), author("Y"), year("1990"))), 38},
		{withKind('m', record(numbers(one), author("Y Z"), year("1984"))), 35},
	} {
		expectPoints(t, full, x.b, x.want)
	}
	// All sums that there can be, without 39 and 41.
	for _, n := range []int{0, 50, -30} {
		for _, ti := range []int{0, 30, -20} {
			for _, au := range []int{0, 15, 8, -15} {
				for _, y := range []int{0, 10, -10} {
					for _, k := range []int{0, -40} {
						if sum := n + ti + au + y + k; sum == 39 || sum == 41 {
							t.Errorf("%d points are possible", sum)
						}
					}
				}
			}
		}
	}
}

// P6.1, P6.2, P1: arbitrary records. R3: they are not changed.
func TestArbitraryPoints(t *testing.T) {
	q := sample.Sequence(80)
	seen := [5]map[int]int{{}, {}, {}, {}, {}}
	same := 0
	for range 30000 {
		a := someRecord(&q)
		b := someRecord(&q)
		if q.Below(2) == 0 {
			b = varied(&q, a)
		}
		want := pointsByDefinition(a, b)
		expectPoints(t, a, b, want)
		for i, count := range countsByDefinition(a, b) {
			seen[i][count]++
		}
		if want >= 40 {
			same++
		}
	}
	for i, counts := range [][]int{{0, 50, -30}, {0, 30, -20}, {0, 15, 8, -15}, {0, 10, -10}, {0, -40}} {
		for _, count := range counts {
			if seen[i][count] < 300 {
				t.Errorf("the feature %d counts %d only %d times", i, count, seen[i][count])
			}
		}
	}
	if same < 3000 {
		t.Errorf("only %d pairs of records are the same", same)
	}
}

// P1: large records.
func TestLargeRecords(t *testing.T) {
	const size = 1 << 17
	long := strings.Repeat("1", size)
	a := record(title("X"), author(strings.Repeat("Y ", size)), published(long, strings.Repeat("123 ", size)+"x1984"), control("008", long))
	b := sample.CopyOf(a)
	for range size {
		a.Fields = append(a.Fields, numbers(one, twoShort), title("-"))
		b.Fields = append(b.Fields, numbers("1", three), author("-"))
	}
	expectPoints(t, a, a, 105)
	expectPoints(t, a, b, 25)
	expectPoints(t, a, record(numbers(one), author("Y"), year("1111")), 68)
}
