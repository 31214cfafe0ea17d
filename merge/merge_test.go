package merge_test

import (
	"slices"
	"strings"
	"testing"

	"pinakes/api"
	"pinakes/merge"
)

// The versions of the examples.
func exampleOne() api.Version {
	return version(1, 5, 2, plain("245", "Emma"), plain("650", "Sea stories"), plain("900", "x"))
}

func exampleTwo() api.Version {
	return version(2, 1, 1, plain("245", "Emma."), plain("650", "SEA STORIES."), plain("650", "Rivers"), plain("900", "x"))
}

// P7.2, P7.3: the examples of the chapter.
func TestExamples(t *testing.T) {
	one, two := exampleOne(), exampleTwo()
	ofTwo := by(2, 1, two.Record.Fields...)
	later := version(1, 5, 3, plain("500", "n"))
	for _, l := range [][]api.Version{{one, two}, {two, one}} {
		expectMerged(t, l, one, by(1, 5, plain("245", "Emma"), plain("650", "Sea stories")), by(2, 1, plain("650", "Rivers")), by(1, 5, plain("900", "x")), by(2, 1, plain("900", "x")))
		expectWithout(t, l, 1, two)
		expectMerged(t, merge.Without(l, 1), two, ofTwo)
		for place := range 3 {
			expectMerged(t, slices.Insert(slices.Clone(l), place, later), later, ofTwo[:1], by(1, 5, plain("500", "n")), ofTwo[1:])
		}
	}
}

// P7.2: lists without versions, versions without fields, nil and empty lists.
func TestMergeOfLittle(t *testing.T) {
	expectMerged(t, nil, api.Version{})
	expectMerged(t, []api.Version{}, api.Version{})
	expectMerged(t, []api.Version{{}}, api.Version{})
	one, two := version(1, 1, 1), version(2, 1, 1)
	empty := version(1, 1, 1)
	empty.Record.Fields = []api.Field{}
	for _, first := range []api.Version{one, empty} {
		expectMerged(t, []api.Version{first}, one)
		expectMerged(t, []api.Version{two, first}, one)
		expectMerged(t, []api.Version{version(2, 1, 1, plain("650", "a")), first}, one, by(2, 1, plain("650", "a")))
		expectMerged(t, []api.Version{version(1, 1, 0, plain("650", "a")), first}, one)
	}
	for _, tag := range []string{"001", "245", "650", "900", ""} {
		expectMerged(t, []api.Version{version(1, 1, 1, api.Field{Tag: tag})}, one, by(1, 1, api.Field{Tag: tag, Subs: []api.Sub{}}))
		expectMerged(t, []api.Version{version(1, 1, 1, api.Field{Tag: tag, Subs: []api.Sub{}})}, one, by(1, 1, api.Field{Tag: tag}))
	}
}

// P7.2: Kind and Level are those of the first record, also if it has no fields, and the list and the numbers of versions have another order.
func TestKindAndLevel(t *testing.T) {
	for n := range 256 {
		first, second, old := version(1, 1, 1), version(1, 2, 9, plain("245", "x")), version(1, 1, 0, plain("245", "y"))
		first.Record.Kind, first.Record.Level = byte(n), byte(n+n/7+1)
		second.Record.Kind, second.Record.Level = byte(n+1), byte(n)
		for _, l := range [][]api.Version{{first, second, old}, {old, first, second}, {second, old, first}} {
			m := merge.Merge(l)
			if m.Record.Kind != byte(n) || m.Record.Level != byte(n+n/7+1) {
				t.Errorf("Kind %d and Level %d of %s", m.Record.Kind, m.Record.Level, shown(l))
			}
			expectMerged(t, l, first, by(1, 2, plain("245", "x")))
		}
	}
}

// expectPolicy checks what becomes of fields with a tag, of which some are alike within a version, and some across two.
func expectPolicy(t *testing.T, tag, policy string) {
	t.Helper()
	x, alike, y, z := field(tag, "  ", "ax"), field(tag, "1 ", "aX."), field(tag, "  ", "ay"), field(tag, "  ", "az")
	one, two := version(1, 1, 1, x, alike, y), version(2, 1, 1, y, x, z)
	var want [][]said
	switch policy {
	case "first":
		want = [][]said{by(1, 1, x, alike, y)}
	case "all":
		want = [][]said{by(1, 1, x, y), by(2, 1, z)}
	case "local":
		want = [][]said{by(1, 1, x, alike, y), by(2, 1, y, x, z)}
	}
	expectMerged(t, []api.Version{one, two}, one, want...)
	expectMerged(t, []api.Version{version(2, 1, 0, z, z), two, one}, one, want...)
	data := control(tag, "x")
	want = [][]said{by(1, 1, data, data), by(2, 1, data)}
	switch policy {
	case "first":
		want = want[:1]
	case "all":
		want = [][]said{by(1, 1, data)}
	}
	one.Record.Fields, two.Record.Fields = []api.Field{data, data}, []api.Field{data}
	expectMerged(t, []api.Version{two, one}, one, want...)
}

// P7.2: the policies of tags, and of those that are nearly the same.
func TestPolicies(t *testing.T) {
	for _, tag := range []string{"00", "000", "001", "003", "008", "009", "00x", "00 ", "0012", "00\xff", "00é", "010", "040", "100", "110", "245"} {
		expectPolicy(t, tag, "first")
	}
	for _, tag := range []string{
		"", "0", "01", "011", "0100", "01 ", "04", "041", "0400", "1", "10", "101", "1000", "11", "111", "109", "120", "1100", "11O",
		"24", "244", "246", "255", "345", "2450", "245 ", " 245", "45", "020", "0x0", "650", "700", "8", "899", "é", "x", " 9", " 00", "\x0000", "٩00", "９", "O10",
	} {
		expectPolicy(t, tag, "all")
	}
	for _, tag := range []string{"9", "90", "900", "901", "999", "9xx", "9 ", "9\xff", "9é", "9000", "900245", "9\x00"} {
		expectPolicy(t, tag, "local")
	}
}

// P7.2: the policies of all tags that differ from others in one byte, and of all short ones of chosen pieces.
func TestPoliciesOfAllTags(t *testing.T) {
	for n := range 256 {
		b := string([]byte{byte(n)})
		for _, s := range []string{"?", "0?", "?0", "?00", "?10", "?40", "?45", "?01", "0?0", "1?0", "2?5", "9?9", "00?", "01?", "04?", "10?", "11?", "24?", "90?", "010?", "245?"} {
			tag := strings.Replace(s, "?", b, 1)
			expectPolicy(t, tag, policyByDefinition(tag))
		}
	}
	pieces := []string{"0", "1", "2", "4", "5", "9"}
	for _, a := range pieces {
		for _, b := range pieces {
			for _, c := range pieces {
				for _, d := range append(pieces, "") {
					expectPolicy(t, a+b+c+d, policyByDefinition(a+b+c+d))
				}
			}
		}
	}
}

// P7.2: with the policy first, all fields of the first version that has one, in their order, and none of any other.
func TestPolicyFirst(t *testing.T) {
	other := plain("500", "n")
	ofOther := by(1, 1, other)
	for _, tag := range []string{"00", "001", "010", "040", "100", "110", "245"} {
		a, b := plain(tag, "a"), plain(tag, "b")
		none, one, several, last := version(1, 1, 8, other), version(1, 2, 7, b, other), version(1, 3, 6, a, b, a), version(2, 0, 9, a)
		expectMerged(t, []api.Version{none}, none, ofOther)
		expectMerged(t, []api.Version{none, last}, none, by(2, 0, a), ofOther)
		expectMerged(t, []api.Version{last, none, several}, none, by(1, 3, a, b, a), ofOther)
		expectMerged(t, []api.Version{several, one, last, none}, none, by(1, 2, b), ofOther)
		expectMerged(t, []api.Version{last, several}, several, by(1, 3, a, b, a))
		// Fields with other tags between them change nothing.
		mixed := version(1, 1, 1, a, plain("650", "x"), b, plain("5", "y"), a)
		expectMerged(t, []api.Version{mixed, last}, mixed, by(1, 1, a, b, a, plain("5", "y"), plain("650", "x")))
	}
	// Each tag has a first version of its own.
	one, two := version(1, 1, 1, plain("100", "y"), plain("040", "y")), version(2, 1, 1, plain("245", "x"), plain("100", "x"), plain("001", "x"))
	expectMerged(t, []api.Version{two, one}, one, by(2, 1, plain("001", "x")), by(1, 1, plain("040", "y"), plain("100", "y")), by(2, 1, plain("245", "x")))
}

// P7.2: with the policy all, the fields of all versions in their order, each with the first record that says it.
func TestPolicyAll(t *testing.T) {
	for _, tag := range []string{"", "01", "0100", "111", "246", "650"} {
		a, b, c, d := plain(tag, "a"), plain(tag, "b"), plain(tag, "c"), plain(tag, "d")
		one, two, three := version(1, 1, 1, c, a, c), version(1, 2, 1), version(2, 1, 1, d, plain(tag, "A"), b, plain(tag, "B!"))
		expectMerged(t, []api.Version{one, two, three}, one, by(1, 1, c, a), by(2, 1, d, b))
		expectMerged(t, []api.Version{three, two}, two, by(1, 2), by(2, 1, d, plain(tag, "A"), b))
		four := version(3, 1, 1, plain(tag, "D"), plain(tag, "e"), a)
		expectMerged(t, []api.Version{four, three, one}, one, by(1, 1, c, a), by(2, 1, d, b), by(3, 1, plain(tag, "e")))
	}
}

// P7.2: with the policy local, the fields of all versions in their order, equal ones, too.
func TestPolicyLocal(t *testing.T) {
	for _, tag := range []string{"9", "900", "9é"} {
		a, b := plain(tag, "a"), plain(tag, "b")
		one, two, three := version(1, 1, 1, b, a, b), version(1, 2, 1), version(2, 1, 1, a, a, plain(tag, "A"))
		expectMerged(t, []api.Version{three, one, two}, one, by(1, 1, b, a, b), by(2, 1, a, a, plain(tag, "A")))
		expectMerged(t, []api.Version{three, two}, two, by(2, 1, a, a, plain(tag, "A")))
	}
}

// P7.2: tags are ordered by their bytes, in whatever order they come, and within a tag the order stays.
func TestOrderOfTags(t *testing.T) {
	tags := []string{"", "\x00", " 00", "0", "00", "001", "0012", "009", "00x", "01", "010", "0100", "011", "1", "100", "20", "200", "245", "246", "2é", "65", "650", "9", "90", "900", "9a", ":", "A", "a", "z", "é", "日", "\xff"}
	var inOrder, reversed []api.Field
	for _, tag := range tags {
		inOrder = append(inOrder, plain(tag, "first"), plain(tag, "again"))
	}
	for _, tag := range tags {
		reversed = append([]api.Field{plain(tag, "first"), plain(tag, "again")}, reversed...)
	}
	even, odd := version(1, 1, 1), version(2, 1, 1)
	for i, f := range reversed {
		if i/2%2 == 0 {
			even.Record.Fields = append(even.Record.Fields, f)
		} else {
			odd.Record.Fields = append(odd.Record.Fields, f)
		}
	}
	ofAll := version(1, 1, 1, reversed...)
	expectMerged(t, []api.Version{ofAll}, ofAll, by(1, 1, inOrder...))
	var want []said
	for i := range tags {
		source := 1 + (len(tags)-1-i)%2
		want = append(want, by(source, 1, inOrder[2*i:2*i+2]...)...)
	}
	expectMerged(t, []api.Version{even, odd}, even, want)
	expectMerged(t, []api.Version{odd, even}, even, want)
}

// P7.2: From stands beside each field, also for records that differ in Source alone or in Number alone.
func TestFrom(t *testing.T) {
	var l []api.Version
	var titles, subjects, local []said
	for _, source := range []int{-3, 0, 2, 10} {
		for _, number := range []int{-1, 0, 3, 1 << 40} {
			text := string(rune('a'+source+3)) + string(rune('a'+number%7+1))
			subject, own := plain("650", text), plain("950", "x")
			l = append(l, version(source, number, -len(l), own, subject, plain("245", text)))
			titles = append(titles, by(source, number, plain("245", text))...)
			subjects = append(subjects, by(source, number, subject)...)
			local = append(local, by(source, number, own)...)
		}
	}
	first := l[0]
	expectMerged(t, l, first, titles[:1], subjects, local)
	slices.Reverse(l)
	expectMerged(t, l, first, titles[:1], subjects, local)
}

// P1: many versions, many fields, many tags, and long texts.
func TestMergeOfLargeArguments(t *testing.T) {
	const size = 1 << 14
	long := strings.Repeat("Sea stories, ", size)
	one := version(1, 1, 1, slices.Repeat([]api.Field{plain("650", "Sea")}, size)...)
	expectMerged(t, []api.Version{one}, one, by(1, 1, plain("650", "Sea")))
	many := field("650", long, slices.Repeat([]string{"aé", "\x00" + long[:20]}, size)...)
	other := version(2, 1, 1, many, many, field(long, "", "a"+long), field(long, "", "a"+long))
	expectMerged(t, []api.Version{other, one}, one, by(1, 1, plain("650", "Sea")), by(2, 1, many, field(long, "", "a"+long)))
	var l []api.Version
	var want []said
	for i := range size {
		source := i ^ 10922 // so that the sources come in another order than the tags
		v := version(source, 1, 1, plain("245", "t"), plain(string([]byte{'9', byte(i >> 8), byte(i)}), "x"))
		l = append(l, v)
		want = append(want, by(source, 1, v.Record.Fields[1])...)
	}
	expectMerged(t, l, l[10922], by(0, 1, plain("245", "t")), want)
}
