package schema_test

import (
	"slices"
	"strings"
	"testing"

	"pinakes/api"
	"pinakes/sample"
	"pinakes/schema"
)

// P4.2, P4.3: the examples of the chapter.
func TestExamples(t *testing.T) {
	id := control("001", "7")
	emma := api.Field{Tag: "245", Ind: "10", Subs: []api.Sub{{Code: 'a', Text: "Emma"}}}
	other := api.Field{Tag: "245", Ind: "1 ", Subs: []api.Sub{{Code: 'a', Text: "Emma"}}}
	twice := api.Field{Tag: "245", Ind: "10", Subs: []api.Sub{{Code: 'a', Text: "x"}, {Code: 'a', Text: "y"}}}
	local := api.Field{Tag: "999", Ind: " 7", Subs: []api.Sub{{Code: 'q', Text: "z"}}}
	strange := api.Field{Tag: "1a2", Ind: "  ", Subs: []api.Sub{{Code: 'a', Text: "b"}}}
	s := schema.Standard()
	expectProblems(t, s, record(id, emma))
	expectProblems(t, s, record(emma, other), problem(1, api.ErrTwice), missing)
	expectProblems(t, s, record(id, twice, local, strange), problem(1, api.ErrTwice), problem(3, api.ErrTag))
	expectProblems(t, s, record(), missing, missing)
}

// P4.2, 1: control fields without Ind and Subs, whatever Data is.
func TestShapeOfControlFields(t *testing.T) {
	subs := []api.Sub{{Code: 'a', Text: "x"}}
	for _, tag := range []string{"00", "001", "009", "00x", "000", "00a", "0012", "00\xff", "00 é"} {
		expectShape := func(f api.Field, right bool) {
			t.Helper()
			expectKind(t, wide(tag), f, kindIf(!right, api.ErrField))
		}
		for _, data := range []string{"", "7", " ", "é", "\x00\x1e\xff"} {
			expectShape(api.Field{Tag: tag, Data: data}, true)
			expectShape(api.Field{Tag: tag, Data: data, Subs: []api.Sub{}}, true)
			expectShape(api.Field{Tag: tag, Data: data, Ind: " "}, false)
			expectShape(api.Field{Tag: tag, Data: data, Ind: "10"}, false)
			expectShape(api.Field{Tag: tag, Data: data, Subs: subs}, false)
			expectShape(api.Field{Tag: tag, Data: data, Subs: make([]api.Sub, 1)}, false)
			expectShape(api.Field{Tag: tag, Data: data, Ind: "10", Subs: subs}, false)
		}
	}
}

// P4.2, 1: data fields without Data, whose Ind has two bytes, with a subfield.
func TestShapeOfDataFields(t *testing.T) {
	for _, tag := range []string{"", "0", "01", "010", "0x0", "100", "x00", "245", "é", "o01", " 00", "\x00\x00"} {
		expectShape := func(f api.Field, right bool) {
			t.Helper()
			expectKind(t, wide(tag), f, kindIf(!right, api.ErrField))
		}
		for _, ind := range []string{"10", "  ", "é", "\x00\xff", "xx"} {
			expectShape(field(tag, ind, "a"), true)
			expectShape(field(tag, ind, "abca"), true)
			expectShape(api.Field{Tag: tag, Ind: ind, Subs: make([]api.Sub, 1)}, true)
			expectShape(api.Field{Tag: tag, Ind: ind}, false)
			expectShape(api.Field{Tag: tag, Ind: ind, Subs: []api.Sub{}}, false)
			expectShape(api.Field{Tag: tag, Ind: ind, Data: "x", Subs: []api.Sub{{Code: 'a'}}}, false)
			expectShape(api.Field{Tag: tag, Ind: ind, Data: " ", Subs: []api.Sub{{Code: 'a'}}}, false)
			expectShape(api.Field{Tag: tag, Ind: ind, Data: "x"}, false)
		}
		for _, ind := range []string{"", "1", "109", "éé", "€", "😀"} {
			expectShape(field(tag, ind, "a"), false)
			expectShape(field(tag, ind, ""), false)
		}
		expectShape(control(tag, "x"), false)
		expectShape(control(tag, ""), false)
	}
}

// expectMatch says whether a tag matches a rule: the field has a rule, and the rule that must be there is matched.
func expectMatch(t *testing.T, tag, ruleTag string, want bool) {
	t.Helper()
	rule := open(ruleTag)
	rule.Must = true
	if want {
		expectProblems(t, []api.Rule{rule}, record(plain(tag)))
	} else {
		expectProblems(t, []api.Rule{rule}, record(plain(tag)), problem(0, api.ErrTag), missing)
	}
}

// P4.2, 2: a tag has the length of the rule's Tag, and is equal to it but for digits in the place of x.
func TestMatchingTags(t *testing.T) {
	for n := range 256 {
		b := oneByte(n)
		isDigit := n >= '0' && n <= '9'
		expectMatch(t, b, "x", isDigit || b == "x")
		expectMatch(t, "9"+b+"0", "9xx", isDigit || b == "x")
		expectMatch(t, "90"+b, "9xx", isDigit || b == "x")
		expectMatch(t, "0", b, b == "0" || b == "x")
		expectMatch(t, "x", b, b == "x")
		expectMatch(t, b, b, true)
		expectMatch(t, b+"01", "901", b == "9")
		expectMatch(t, "9"+b+"1", "901", b == "0")
		expectMatch(t, "90"+b, "901", b == "1")
	}
	for _, tag := range []string{"", "9", "90", "9000", "x9x", "99", "9000xx"} {
		expectMatch(t, tag, "9xx", false)
	}
	expectMatch(t, "", "", true)
	expectMatch(t, "", "x", false)
	expectMatch(t, "0", "", false)
	expectMatch(t, "9xx", "9xx", true)
	expectMatch(t, "9xx", "900", false)
	expectMatch(t, "5", "X", false)
	expectMatch(t, "٥", "x", false)
	expectMatch(t, "٥", "xx", false)
	expectMatch(t, "001", "xxx", true)
	expectMatch(t, "007", "00x", true)
	expectMatch(t, "0123456789", "xxxxxxxxxx", true)
	expectMatch(t, "01234a6789", "xxxxxxxxxx", false)
}

// P4.2, 2: all short tags with all short rules, as the definition says.
func TestMatchingOfShortTags(t *testing.T) {
	pieces := sample.Singles("0x9a\xff")
	for tag := range sample.Texts(pieces, 3) {
		for ruleTag := range sample.Texts(pieces, 3) {
			expectMatch(t, tag, ruleTag, isDefinedMatch(tag, ruleTag))
		}
	}
}

// P4.2, 2: the rule of a field is the first one that its tag matches, whether or not another one would be closer or fit.
func TestFirstRule(t *testing.T) {
	strict := api.Rule{Tag: "245", Once: true, Ind: [2]string{"3", "3"}, Codes: "z", Single: "z"}
	loose := open("2xx")
	f := plain("245")
	expectProblems(t, []api.Rule{loose, strict}, record(f, f))
	expectProblems(t, []api.Rule{strict, loose}, record(f, f), problem(0, api.ErrInd), problem(1, api.ErrTwice))
	expectProblems(t, []api.Rule{open("24"), open("xx5x"), loose, strict}, record(f, f))
	expectProblems(t, []api.Rule{open("246"), strict, loose}, record(f, plain("246")), problem(0, api.ErrInd))

	same := strict
	same.Tag = "2xx"
	expectProblems(t, []api.Rule{loose, same}, record(f, f))
	expectProblems(t, []api.Rule{same, loose}, record(f), problem(0, api.ErrInd))
}

// P4.2, 3: an earlier field has the same tag, and their rule has Once.
func TestFieldsThatOccurTwice(t *testing.T) {
	rule := open("245")
	f, other := plain("245"), plain("246")
	expectProblems(t, []api.Rule{rule}, record(f, f, f))
	rule.Once = true
	rules := []api.Rule{rule, open("246")}
	expectProblems(t, rules, record(f))
	expectProblems(t, rules, record(f, other, other))
	expectProblems(t, rules, record(f, f), problem(1, api.ErrTwice))
	expectProblems(t, rules, record(f, f, f), problem(1, api.ErrTwice), problem(2, api.ErrTwice))
	expectProblems(t, rules, record(f, other, f, other), problem(2, api.ErrTwice))

	id := open("001")
	id.Once = true
	expectProblems(t, []api.Rule{id}, record(control("001", "a"), control("001", "b")), problem(1, api.ErrTwice))
	id.Once = false
	expectProblems(t, []api.Rule{id}, record(control("001", "a"), control("001", "a")))
}

// P4.2, 3: the earlier field counts with any problem of its own, and the problems of the later one come behind.
func TestFieldsThatOccurTwiceWithOtherProblems(t *testing.T) {
	rule := open("245")
	rule.Once = true
	rules := []api.Rule{rule}
	f := plain("245")
	misshapen, wrongInd, wrongCode := field("245", "1", "a"), field("245", "21", "a"), field("245", "12", "z")
	expectProblems(t, rules, record(misshapen, f), problem(0, api.ErrField), problem(1, api.ErrTwice))
	expectProblems(t, rules, record(f, misshapen), problem(1, api.ErrField))
	expectProblems(t, rules, record(f, misshapen, f), problem(1, api.ErrField), problem(2, api.ErrTwice))
	expectProblems(t, rules, record(wrongInd, f), problem(0, api.ErrInd), problem(1, api.ErrTwice))
	expectProblems(t, rules, record(f, wrongInd), problem(1, api.ErrTwice))
	expectProblems(t, rules, record(wrongCode, wrongCode), problem(0, api.ErrCode), problem(1, api.ErrTwice))
	expectProblems(t, nil, record(f, f), problem(0, api.ErrTag), problem(1, api.ErrTag))
}

// P4.2, 3: under a rule with an x, each tag may be there once.
func TestTagsThatOccurTwiceUnderOneRule(t *testing.T) {
	rule := open("9xx")
	rule.Once = true
	one, two, literal := plain("901"), plain("902"), plain("9xx")
	expectProblems(t, []api.Rule{rule}, record(one, two, literal))
	expectProblems(t, []api.Rule{rule}, record(one, two, one), problem(2, api.ErrTwice))
	expectProblems(t, []api.Rule{rule}, record(one, literal, two, literal, two), problem(3, api.ErrTwice), problem(4, api.ErrTwice))
	controls := open("00x")
	controls.Once = true
	expectProblems(t, []api.Rule{controls}, record(plain("001"), plain("002"), plain("001")), problem(2, api.ErrTwice))
}

// P4.2, 4: the first byte of Ind is in Ind[0], and the second one in Ind[1].
func TestIndicators(t *testing.T) {
	rule := api.Rule{Tag: "245", Ind: [2]string{"01 ", "2\x00\xff"}, Codes: "a"}
	for n := range 256 {
		b := oneByte(n)
		expectKind(t, rule, field("245", b+"2", "a"), kindIf(!strings.Contains("01 ", b), api.ErrInd))
		expectKind(t, rule, field("245", "0"+b, "a"), kindIf(!strings.Contains("2\x00\xff", b), api.ErrInd))
	}
	expectKind(t, rule, field("245", "20", "a"), api.ErrInd)
	expectKind(t, rule, field("245", "33", "a"), api.ErrInd)
	rule.Ind = [2]string{"é", "é"}
	expectKind(t, rule, field("245", "é", "a"), api.OK)
	expectKind(t, rule, field("245", "\xa9\xc3", "a"), api.OK)
	expectKind(t, rule, field("245", "\xc3\xc3", "a"), api.OK)
	expectKind(t, rule, field("245", "ê", "a"), api.ErrInd)
}

// P4.2, 4: no byte is in an empty set. Control fields have no indicators.
func TestEmptySetsOfIndicators(t *testing.T) {
	for _, ind := range [][2]string{{"", ""}, {"1", ""}, {"", "2"}} {
		for _, given := range []string{"12", "  ", "\x00\x00"} {
			expectKind(t, api.Rule{Tag: "245", Ind: ind, Codes: "a"}, field("245", given, "a"), api.ErrInd)
		}
		expectKind(t, api.Rule{Tag: "001", Ind: ind}, control("001", "12"), api.OK)
		expectKind(t, api.Rule{Tag: "xxx", Ind: ind}, control("001", ""), api.OK)
		expectKind(t, api.Rule{Tag: "xxx", Ind: ind}, field("010", "12", "a"), api.ErrInd)
	}
}

// P4.2, 5: each Code is in Codes.
func TestCodes(t *testing.T) {
	rule := open("245")
	rule.Codes = "ab\x00\xc3"
	for n := range 256 {
		b := oneByte(n)
		want := kindIf(!strings.Contains(rule.Codes, b), api.ErrCode)
		for _, codes := range []string{b, "a" + b, b + "a", "ab" + b + "ba", b + b} {
			expectKind(t, rule, field("245", "12", codes), want)
		}
	}
	rule.Codes = "é"
	expectKind(t, rule, field("245", "12", "é"), api.OK)
	expectKind(t, rule, field("245", "12", "\xa9\xc3\xa9"), api.OK)
	expectKind(t, rule, field("245", "12", "ê"), api.ErrCode)
	rule.Codes = ""
	for _, codes := range []string{"a", "\x00", "ab"} {
		expectKind(t, rule, field("245", "12", codes), api.ErrCode)
	}
	rule.Single = "a"
	expectKind(t, rule, field("245", "12", "a"), api.ErrCode)
	expectKind(t, api.Rule{Tag: "001"}, control("001", "12"), api.OK)
}

// P4.2, 6: no Code of Single occurs twice.
func TestCodesThatOccurTwice(t *testing.T) {
	rule := wide("245")
	rule.Single = "ab\x00\xff"
	for n := range 256 {
		b := oneByte(n)
		want := kindIf(strings.Contains(rule.Single, b), api.ErrTwice)
		expectKind(t, rule, field("245", "12", b), api.OK)
		for _, codes := range []string{b + b, b + "c" + b, "dc" + b + "c" + b + "d", b + b + b} {
			if b != "c" && b != "d" {
				expectKind(t, rule, field("245", "12", codes), want)
			}
		}
	}
	expectKind(t, rule, field("245", "12", "ab\x00\xff"), api.OK)
	expectKind(t, rule, field("245", "12", "abccdd"), api.OK)
	expectKind(t, rule, field("245", "12", "ccabb"), api.ErrTwice)
	expectKind(t, rule, field("245", "12", "acdeba"), api.ErrTwice)
	rule.Single = "é"
	expectKind(t, rule, field("245", "12", "é"), api.OK)
	expectKind(t, rule, field("245", "12", "\xa9a\xa9"), api.ErrTwice)
	rule.Single = ""
	expectKind(t, rule, field("245", "12", "aabb\x00\x00"), api.OK)
	rule.Single, rule.Codes = "a", "b"
	expectKind(t, rule, field("245", "12", "bb"), api.OK)
	expectKind(t, rule, field("245", "12", "aa"), api.ErrCode)
}

// P4.2, 6: texts play no part, and the codes of another field do not count.
func TestCodesOfOtherFields(t *testing.T) {
	rule := open("245")
	rule.Single = "a"
	f := plain("245")
	expectProblems(t, []api.Rule{rule}, record(f, f))
	f.Subs = []api.Sub{{Code: 'a', Text: "one"}, {Code: 'a', Text: "two"}}
	expectProblems(t, []api.Rule{rule}, record(plain("245"), f), problem(1, api.ErrTwice))
}

// P4.2: of two problems, the one that stands first in the chapter; for each choice of the six.
func TestOrderOfTheProblems(t *testing.T) {
	kinds := []api.Errno{api.ErrField, api.ErrTag, api.ErrTwice, api.ErrInd, api.ErrCode, api.ErrTwice}
	for choice := range 1 << len(kinds) {
		has := func(n int) bool { return choice>>n&1 == 1 }
		earlier, f := plain("501"), field("500", "12", "b")
		rule := api.Rule{Tag: "50x", Once: true, Ind: [2]string{"1", "2"}, Codes: "ab", Single: "a"}
		want := api.OK
		for n := len(kinds) - 1; n >= 0; n-- {
			if has(n) {
				want = kinds[n]
			}
		}
		if has(0) {
			f.Data = "x"
		}
		if has(1) {
			rule.Tag = "501"
		}
		if has(2) {
			earlier.Tag = "500"
		}
		if has(3) {
			f.Ind = "22"
		}
		if has(5) {
			f.Subs = append(f.Subs, api.Sub{Code: 'a'}, api.Sub{Code: 'a'})
		}
		if has(4) {
			f.Subs = append(f.Subs, api.Sub{Code: 'c'})
		}
		expectLast(t, []api.Rule{rule}, record(earlier, f), want)
	}
}

// expectLast checks the problem of the last field.
func expectLast(t *testing.T, rules []api.Rule, r api.Record, want api.Errno) {
	t.Helper()
	got, last := api.OK, len(r.Fields)-1
	for _, p := range schema.Check(rules, r) {
		if p.Field == last {
			got = p.Kind
		}
	}
	if got != want {
		t.Errorf("Check(%s, %s): %d for the last field, want %d", shown(rules), shown(r), got, want)
	}
}

// P4.2: the order for control fields, and for the ways of not being shaped.
func TestOrderOfTheProblemsOfOtherFields(t *testing.T) {
	id := api.Rule{Tag: "001", Once: true}
	bad := api.Field{Tag: "001", Ind: "12"}
	expectProblems(t, []api.Rule{id}, record(bad, bad, plain("001")), problem(0, api.ErrField), problem(1, api.ErrField), problem(2, api.ErrTwice))
	expectProblems(t, nil, record(bad, plain("001"), plain("001")), problem(0, api.ErrField), problem(1, api.ErrTag), problem(2, api.ErrTag))
	strict := api.Rule{Tag: "245", Once: true}
	for _, f := range []api.Field{{Tag: "245"}, control("245", "x"), field("245", "1", "a"), field("245", "123", "a"), field("245", "12", "")} {
		expectProblems(t, []api.Rule{strict}, record(f, f), problem(0, api.ErrField), problem(1, api.ErrField))
		expectProblems(t, nil, record(f, f), problem(0, api.ErrField), problem(1, api.ErrField))
	}
	expectProblems(t, []api.Rule{strict}, record(plain("245"), plain("245")), problem(0, api.ErrInd), problem(1, api.ErrTwice))
}

// P4.2: for each rule with Must, one problem behind those of the fields, if the tag of no field matches it.
func TestMissingFields(t *testing.T) {
	must := func(tag string) api.Rule {
		rule := open(tag)
		rule.Must = true
		return rule
	}
	rules := []api.Rule{must("001"), open("100"), must("245"), must("9xx")}
	expectProblems(t, rules, record(), missing, missing, missing)
	expectProblems(t, rules, record(plain("245")), missing, missing)
	expectProblems(t, rules, record(plain("100"), plain("555"), plain("901")), problem(1, api.ErrTag), missing, missing)
	expectProblems(t, rules, record(plain("902"), plain("901"), plain("245"), plain("001")))
	expectProblems(t, rules, record(plain("001"), plain("245"), plain("9a1")), problem(2, api.ErrTag), missing)
	expectProblems(t, rules, record(plain("001"), plain("245"), plain("91")), problem(2, api.ErrTag), missing)

	// A field with a problem is not missing.
	expectProblems(t, rules, record(control("245", "x"), field("001", "12", "a"), field("900", "21", "a")), problem(0, api.ErrField), problem(1, api.ErrField), problem(2, api.ErrInd))
	// Each rule counts for itself.
	expectProblems(t, []api.Rule{must("245"), must("245"), must("2xx")}, record(), missing, missing, missing)
	expectProblems(t, []api.Rule{must(""), must("x")}, record(), missing, missing)
	expectProblems(t, []api.Rule{open("245"), open("9xx")}, record())
}

// P4.2, P4.4: a rule that is the rule of no field may still be matched, and counts for Must alone.
func TestMustBehindAnotherRule(t *testing.T) {
	behind := api.Rule{Tag: "245", Must: true, Once: true, Codes: "z", Single: "a"}
	rules := []api.Rule{open("2xx"), behind}
	expectProblems(t, rules, record(plain("245"), plain("245")))
	expectProblems(t, rules, record(plain("246")), missing)
	expectProblems(t, rules, record(), missing)
	behind.Must = false
	expectProblems(t, []api.Rule{open("2xx"), behind}, record(plain("246"), plain("245"), plain("245")))
	first := open("2xx")
	first.Must = true
	expectProblems(t, []api.Rule{open("245"), first}, record(plain("245")))
	expectProblems(t, []api.Rule{open("245"), first}, record(plain("345")), problem(0, api.ErrTag), missing)
}

// R1, R2: nil and empty lists, and zero values.
func TestNilAndEmptyLists(t *testing.T) {
	for _, rules := range [][]api.Rule{nil, {}} {
		for _, fields := range [][]api.Field{nil, {}} {
			expectProblems(t, rules, api.Record{Fields: fields})
			expectProblems(t, []api.Rule{{}}, api.Record{Fields: fields})
			expectProblems(t, []api.Rule{{Must: true}}, api.Record{Fields: fields}, missing)
		}
		expectProblems(t, rules, record(plain("001"), plain("245")), problem(0, api.ErrTag), problem(1, api.ErrTag))
		expectProblems(t, rules, record(api.Field{}), problem(0, api.ErrField))
	}
	expectProblems(t, []api.Rule{{Must: true}}, record(api.Field{}), problem(0, api.ErrField))
	expectProblems(t, []api.Rule{{}}, record(plain("")), problem(0, api.ErrInd))
	for _, subs := range [][]api.Sub{nil, {}} {
		expectProblems(t, []api.Rule{{Tag: "001"}}, record(api.Field{Tag: "001", Subs: subs}))
		expectProblems(t, []api.Rule{open("245")}, record(api.Field{Tag: "245", Ind: "12", Subs: subs}), problem(0, api.ErrField))
	}
}

// R3: the problems are a new list each time.
func TestProblemsAreNewEachTime(t *testing.T) {
	first, second := schema.Check(schema.Standard(), record()), schema.Check(schema.Standard(), record())
	clear(first)
	if !slices.Equal(second, []api.Problem{missing, missing}) {
		t.Errorf("a change of the problems %v is a change of other ones: %v", first, second)
	}
}

// P4.2: arbitrary rules and records, as the definition says.
func TestCheckFollowsTheDefinition(t *testing.T) {
	q := sample.Sequence(51)
	seen := map[api.Errno]int{}
	for range 50000 {
		rules, r := someRules(&q), someRecord(&q)
		want := checkByDefinition(rules, r)
		expectProblems(t, rules, r, want...)
		for _, p := range want {
			seen[p.Kind]++
		}
		if len(want) == 0 && len(r.Fields) > 1 {
			seen[api.OK]++
		}
	}
	for _, kind := range []api.Errno{api.OK, api.ErrField, api.ErrTag, api.ErrTwice, api.ErrInd, api.ErrCode, api.ErrMissing} {
		if seen[kind] < 200 {
			t.Errorf("problem %d in %d records only", kind, seen[kind])
		}
	}
}

// P1: large and hostile arguments.
func TestCheckOfLargeArguments(t *testing.T) {
	const size = 1 << 17
	f := plain("500")
	expectProblems(t, []api.Rule{open("500")}, record(slices.Repeat([]api.Field{f}, size)...))
	once := open("500")
	once.Once = true
	if got := schema.Check([]api.Rule{once}, record(slices.Repeat([]api.Field{f}, size)...)); len(got) != size-1 || got[size-2] != problem(size-1, api.ErrTwice) {
		t.Errorf("%d problems of one field %d times", len(got), size)
	}
	expectProblems(t, append(slices.Repeat([]api.Rule{open("50")}, size), open("500")), record(f, f))
	if got := schema.Check(slices.Repeat([]api.Rule{{Tag: "245", Must: true}}, size), record(f)); len(got) != size+1 || got[size] != missing {
		t.Errorf("%d problems of %d rules", len(got), size)
	}
	expectMatch(t, strings.Repeat("7", size), strings.Repeat("x", size), true)
	expectMatch(t, strings.Repeat("7", size)+"a", strings.Repeat("x", size+1), false)
	expectKind(t, open("500"), field("500", "12", strings.Repeat("a", size)), api.OK)
	single := open("500")
	single.Single = strings.Repeat("b", size) + "a"
	expectKind(t, single, field("500", "12", strings.Repeat("a", size)), api.ErrTwice)
	expectKind(t, open("500"), field("500", strings.Repeat("1", size), "a"), api.ErrField)
}
