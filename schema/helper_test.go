package schema_test

import (
	"fmt"
	"slices"
	"strings"
	"testing"

	"pinakes/api"
	"pinakes/sample"
	"pinakes/schema"
)

var missing = api.Problem{Field: -1, Kind: api.ErrMissing}

func problem(field int, kind api.Errno) api.Problem {
	return api.Problem{Field: field, Kind: kind}
}

func record(fields ...api.Field) api.Record {
	return api.Record{Kind: 'a', Level: 'm', Fields: fields}
}

// The control fields of the tests are written in this way.
var control = sample.Control

// field makes a data field with a subfield for each byte of codes.
func field(tag, ind, codes string) api.Field {
	f := api.Field{Tag: tag, Ind: ind}
	for i := range len(codes) {
		f.Subs = append(f.Subs, api.Sub{Code: codes[i], Text: "text"})
	}
	return f
}

// plain makes a shaped field, and open a rule to which it fits.
func plain(tag string) api.Field {
	if strings.HasPrefix(tag, "00") {
		return control(tag, "data")
	}
	return field(tag, "12", "a")
}

func open(tag string) api.Rule {
	return api.Rule{Tag: tag, Ind: [2]string{"1", "2"}, Codes: "a"}
}

// wide is a rule that permits all bytes as indicators and codes.
func wide(tag string) api.Rule {
	return api.Rule{Tag: tag, Ind: [2]string{allBytes(), allBytes()}, Codes: allBytes()}
}

func allBytes() string {
	var b []byte
	for n := range 256 {
		b = append(b, byte(n))
	}
	return string(b)
}

func oneByte(n int) string { return string([]byte{byte(n)}) }

func shown(x any) string {
	s := fmt.Sprintf("%+q", x)
	return s[:min(len(s), 300)]
}

// expectProblems compares Check, and Fits, with a result. R3: neither changes the arguments; R4: the second call returns the same.
func expectProblems(t *testing.T, rules []api.Rule, r api.Record, want ...api.Problem) {
	t.Helper()
	givenRules, given := slices.Clone(rules), sample.CopyOf(r)
	for range 2 {
		if got := schema.Check(rules, r); !slices.Equal(got, want) {
			t.Errorf("Check(%s, %s): %v, want %v", shown(rules), shown(r), got, want)
		}
		if schema.Fits(rules, r) != (len(want) == 0) {
			t.Errorf("Fits(%s, %s): %v", shown(rules), shown(r), len(want) != 0)
		}
	}
	if !slices.Equal(rules, givenRules) || !sample.Equal(r, given) {
		t.Errorf("Check or Fits made %s, %s of %s, %s", shown(rules), shown(r), shown(givenRules), shown(given))
	}
}

// expectKind checks a record of one field: OK stands for no problem.
func expectKind(t *testing.T, rule api.Rule, f api.Field, want api.Errno) {
	t.Helper()
	if want == api.OK {
		expectProblems(t, []api.Rule{rule}, record(f))
	} else {
		expectProblems(t, []api.Rule{rule}, record(f), problem(0, want))
	}
}

func kindIf(wrong bool, kind api.Errno) api.Errno {
	if wrong {
		return kind
	}
	return api.OK
}

// someTags are few enough to occur twice, and to match the tags of someRules in all ways.
func someTags() []string {
	return []string{"001", "001", "007", "00x", "00", "245", "245", "245", "246", "2x5", "24", "", "7", "x", "é"}
}

func someRules(q *sample.Sequence) []api.Rule {
	tags := []string{"001", "00x", "245", "2xx", "2xx", "24x", "xxx", "xxx", "xx", "", "x", "é"}
	sets := []string{"1", "2", "12", "12a", "é", ""}
	var rules []api.Rule
	for range q.Below(12) {
		rules = append(rules, api.Rule{
			Tag: tags[q.Below(len(tags))], Must: q.Below(8) == 0, Once: q.Below(3) == 0,
			Ind:   [2]string{"12" + sets[q.Below(len(sets))], sets[q.Below(len(sets))] + "12\xa9"},
			Codes: "ab" + sets[q.Below(len(sets))], Single: sets[q.Below(len(sets))],
		})
	}
	return rules
}

// someField makes a field which is shaped more often than not.
func someField(q *sample.Sequence) api.Field {
	f := plain(someTags()[q.Below(len(someTags()))])
	if !isControl(f) {
		f = field(f.Tag, q.Join([]string{"1", "2", "1", "2", "a"}, 2), q.Join([]string{"a", "b", "a", "b", "1", "\xc3"}, 1+q.Below(4)))
	}
	switch q.Below(20) {
	case 0:
		f.Data = q.Join([]string{"data", ""}, 1)
	case 1:
		f.Ind = q.Join([]string{"1", "", "é"}, q.Below(3))
	case 2:
		f.Subs = f.Subs[:0]
	case 3:
		f.Subs = append(f.Subs, api.Sub{Code: 'a'})
	}
	return f
}

func someRecord(q *sample.Sequence) api.Record {
	var r api.Record
	for range q.Below(6) {
		r.Fields = append(r.Fields, someField(q))
	}
	return r
}
