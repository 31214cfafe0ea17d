package schema_test

import (
	"slices"
	"strings"
	"testing"

	"pinakes/api"
	"pinakes/sample"
	"pinakes/schema"
)

// standardTable is the table of the chapter, as it is printed there.
const standardTable = `
| 001 | yes | yes | / | / | / | / |
| 003 | no | yes | / | / | / | / |
| 005 | no | yes | / | / | / | / |
| 008 | no | yes | / | / | / | / |
| 010 | no | yes | ␣ | ␣ | az | a |
| 020 | no | no | ␣ | ␣ | acqz | ac |
| 022 | no | no | 01␣ | ␣ | ayz | a |
| 040 | no | yes | ␣ | ␣ | abcde | abce |
| 041 | no | no | 01␣ | ␣ | abdh | / |
| 082 | no | no | 01 | 04␣ | a2 | 2 |
| 100 | no | yes | 013 | ␣ | 0abcdq | 0abdq |
| 110 | no | yes | 012 | ␣ | 0abn | 0a |
| 245 | yes | yes | 01 | 0123456789 | abchnp | abch |
| 246 | no | no | 0123 | 012345678␣ | abinp | abi |
| 250 | no | no | ␣ | ␣ | ab | ab |
| 260 | no | no | 23␣ | ␣ | abc | / |
| 300 | no | no | ␣ | ␣ | abce | be |
| 490 | no | no | 01 | ␣ | avx | x |
| 500 | no | no | ␣ | ␣ | a | a |
| 600 | no | no | 013 | 01234567 | 0abcdtvxyz | 0abdt |
| 650 | no | no | 012␣ | 01234567 | 0avxyz | 0a |
| 700 | no | no | 013 | 2␣ | 0abcdqt | 0abdqt |
| 856 | no | no | 01234␣ | 0128␣ | uyz3 | 3 |
| 9xx | no | no | 0123456789␣ | 0123456789␣ | 0123456789abcdefghijklmnopqrstuvwxyz | / |
`

// readStandard reads standardTable.
func readStandard() []api.Rule {
	var rules []api.Rule
	for line := range strings.Lines(strings.TrimSpace(standardTable)) {
		cells := strings.Split(line, "|")
		for i, cell := range cells {
			cell = strings.ReplaceAll(strings.TrimSpace(cell), "␣", " ")
			if cell == "/" {
				cell = ""
			}
			cells[i] = cell
		}
		rules = append(rules, api.Rule{
			Tag: cells[1], Must: cells[2] == "yes", Once: cells[3] == "yes",
			Ind: [2]string{cells[4], cells[5]}, Codes: cells[6], Single: cells[7],
		})
	}
	return rules
}

// P4.1: the rules of the table, in their order.
func TestStandard(t *testing.T) {
	want, got := readStandard(), schema.Standard()
	if len(want) != 24 || len(got) != len(want) {
		t.Fatalf("%d rules, want %d of 24", len(got), len(want))
	}
	for n := range want {
		if got[n] != want[n] {
			t.Errorf("rule %d: %+v, want %+v", n, got[n], want[n])
		}
	}
}

// P4.1: some rules, written here in another way than in the table.
func TestKnownRulesOfStandard(t *testing.T) {
	s := schema.Standard()
	for n, want := range map[int]api.Rule{
		0:  {Tag: "001", Must: true, Once: true},
		1:  {Tag: "003", Once: true},
		6:  {Tag: "022", Ind: [2]string{"01\x20", "\x20"}, Codes: "ayz", Single: "a"},
		12: {Tag: "245", Must: true, Once: true, Ind: [2]string{"01", "0123456789"}, Codes: "abchnp", Single: "abch"},
		15: {Tag: "260", Ind: [2]string{"23\x20", "\x20"}, Codes: "abc"},
		22: {Tag: "856", Ind: [2]string{"01234\x20", "0128\x20"}, Codes: "uyz3", Single: "3"},
		23: {Tag: "9xx", Ind: [2]string{"0123456789\x20", "0123456789\x20"}, Codes: "0123456789abcdefghijklmnopqrstuvwxyz"},
	} {
		if s[n] != want {
			t.Errorf("rule %d: %+v, want %+v", n, s[n], want)
		}
	}
}

// P4.1, R3: the list is a new one each time.
func TestStandardIsNewEachTime(t *testing.T) {
	first, second := schema.Standard(), schema.Standard()
	clear(first)
	first = append(first[:0], api.Rule{Tag: "xxx"})
	if want := readStandard(); !slices.Equal(second, want) || !slices.Equal(schema.Standard(), want) {
		t.Errorf("a change of the list %+v is a change of other ones", first)
	}
}

// standardField makes a field that fits to a rule of Standard.
func standardField(rule api.Rule) api.Field {
	tag := strings.ReplaceAll(rule.Tag, "x", "5")
	if rule.Codes == "" {
		return control(tag, "data")
	}
	return field(tag, rule.Ind[0][:1]+rule.Ind[1][:1], rule.Codes[:1])
}

// P4.1, P4.2: what each rule of Standard says about each byte as an indicator and as a code, and about fields and codes that occur twice.
func TestBytesOfStandard(t *testing.T) {
	id, title := control("001", "7"), field("245", "10", "a")
	for _, rule := range readStandard() {
		f := standardField(rule)
		r := record(id, title, f)
		if rule.Must {
			r = record(id, title)
		}
		expectProblems(t, schema.Standard(), r)
		again := record(append(r.Fields, f)...)
		if rule.Once {
			expectProblems(t, schema.Standard(), again, problem(len(r.Fields), api.ErrTwice))
		} else {
			expectProblems(t, schema.Standard(), again)
		}
		if rule.Codes != "" {
			expectBytesOfRule(t, rule, f)
		}
	}
}

// expectBytesOfRule checks changes of a field that fits to a rule of Standard.
func expectBytesOfRule(t *testing.T, rule api.Rule, f api.Field) {
	t.Helper()
	expect := func(ind, codes string, kind api.Errno) {
		t.Helper()
		var want []api.Problem
		if kind != api.OK {
			want = append(want, problem(0, kind))
		}
		want = append(want, missing)
		if !rule.Must {
			want = append(want, missing)
		}
		expectProblems(t, schema.Standard(), record(field(f.Tag, ind, codes)), want...)
	}
	for n := range 256 {
		b := oneByte(n)
		expect(b+f.Ind[1:], rule.Codes[:1], kindIf(!strings.Contains(rule.Ind[0], b), api.ErrInd))
		expect(f.Ind[:1]+b, rule.Codes[:1], kindIf(!strings.Contains(rule.Ind[1], b), api.ErrInd))
		expect(f.Ind, b, kindIf(!strings.Contains(rule.Codes, b), api.ErrCode))
	}
	expect(f.Ind, rule.Codes, api.OK)
	for _, b := range sample.Singles(rule.Codes) {
		want := kindIf(strings.Contains(rule.Single, b), api.ErrTwice)
		expect(f.Ind, b+b, want)
		expect(f.Ind, rule.Codes+b, want)
		expect(f.Ind, b+rule.Codes+"!", api.ErrCode)
	}
}

// P4.1: tags that no rule of Standard has, and those of 9xx.
func TestTagsOfStandard(t *testing.T) {
	known := readStandard()
	for n := range 1000 {
		tag := oneByte('0'+n/100) + oneByte('0'+n/10%10) + oneByte('0'+n%10)
		f := plain(tag)
		number := slices.IndexFunc(known, func(rule api.Rule) bool { return rule.Tag == tag || rule.Tag == "9xx" && n >= 900 })
		if number >= 0 {
			f = standardField(known[number])
			f.Tag = tag
		}
		var want []api.Problem
		if number < 0 {
			want = append(want, problem(0, api.ErrTag))
		}
		for _, must := range []string{"001", "245"} {
			if tag != must {
				want = append(want, missing)
			}
		}
		expectProblems(t, schema.Standard(), record(f), want...)
	}
}
