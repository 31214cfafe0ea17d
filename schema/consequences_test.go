package schema_test

import (
	"slices"
	"testing"

	"pinakes/api"
	"pinakes/sample"
	"pinakes/schema"
)

// fitsAlone says whether a field has no problem in a record of its own, apart from missing ones.
func fitsAlone(rules []api.Rule, f api.Field) bool {
	return !slices.ContainsFunc(schema.Check(rules, record(f)), func(p api.Problem) bool { return p != missing })
}

// hasTagTwice says whether two fields have a tag whose rule has Once.
func hasTagTwice(rules []api.Rule, fields []api.Field) bool {
	for n, f := range fields {
		number := slices.IndexFunc(rules, func(rule api.Rule) bool { return isDefinedMatch(f.Tag, rule.Tag) })
		sameTag := func(e api.Field) bool { return e.Tag == f.Tag }
		if number >= 0 && rules[number].Once && slices.ContainsFunc(fields[:n], sameTag) {
			return true
		}
	}
	return false
}

// P4.4: a record fits if all its fields do, each alone, no tag that must not is there twice, and nothing is missing.
func TestFitsFieldByField(t *testing.T) {
	q := sample.Sequence(52)
	fitting := 0
	for range 50000 {
		rules, r := someRules(&q), someRecord(&q)
		want := !hasTagTwice(rules, r.Fields) && !slices.Contains(schema.Check(rules, r), missing)
		for _, f := range r.Fields {
			want = want && fitsAlone(rules, f)
		}
		if schema.Fits(rules, r) != want {
			t.Errorf("Fits(%s, %s): %v", shown(rules), shown(r), !want)
		}
		if want && len(r.Fields) > 0 {
			fitting++
		}
	}
	if fitting < 500 {
		t.Errorf("only %d records fit", fitting)
	}
}

// P4.4: texts, Kind and Level have no effect.
func TestWhatHasNoEffect(t *testing.T) {
	q := sample.Sequence(53)
	for range 20000 {
		rules, r := someRules(&q), someRecord(&q)
		other := sample.CopyOf(r)
		other.Kind, other.Level = byte(q.Next()), byte(q.Next())
		for n := range other.Fields {
			f := &other.Fields[n]
			if isControl(*f) {
				f.Data = q.Bytes(q.Below(4))
			} else if f.Data != "" {
				f.Data += q.Bytes(q.Below(4))
			}
			for i := range f.Subs {
				f.Subs[i].Text = q.Bytes(q.Below(4))
			}
		}
		expectProblems(t, rules, other, schema.Check(rules, r)...)
	}
	r := record(control("001", "7"), field("245", "10", "a"))
	for n := range 256 {
		r.Kind, r.Level = byte(n), byte(255-n)
		expectProblems(t, schema.Standard(), r)
	}
	expectProblems(t, schema.Standard(), api.Record{Fields: r.Fields})
}

// P4.4: a rule behind another one that matches the same tags has no effect, but for Must.
func TestRulesWithoutEffect(t *testing.T) {
	q := sample.Sequence(54)
	for range 20000 {
		rules, r := someRules(&q), someRecord(&q)
		if len(rules) == 0 {
			continue
		}
		n := q.Below(len(rules))
		behind := api.Rule{Tag: rules[n].Tag, Once: !rules[n].Once, Ind: [2]string{"1", "é"}, Codes: "é", Single: "ab"}
		for place := n + 1; place <= len(rules); place++ {
			expectProblems(t, slices.Insert(slices.Clone(rules), place, behind), r, schema.Check(rules, r)...)
		}
		want := schema.Check(rules, r)
		if !slices.ContainsFunc(r.Fields, func(f api.Field) bool { return isDefinedMatch(f.Tag, behind.Tag) }) {
			want = append(want, missing)
		}
		behind.Must = true
		expectProblems(t, append(slices.Clone(rules), behind), r, want...)
	}
}
