package schema

import (
	"strings"

	"pinakes/api"
)

// visit is a field, with what the rest of the record and the rules say about its tag.
type visit struct {
	field api.Field
	rule  *api.Rule // nil, if there is none
	again bool      // an earlier field has the same tag
}

// fieldTest finds one sort of problem.
type fieldTest struct {
	kind api.Errno
	hits func(visit) bool
}

// testsOfFields lists the tests in the order in which they are tried: those that need a shaped field or a rule are behind the ones that find that it is missing.
func testsOfFields() []fieldTest {
	return []fieldTest{
		{kind: api.ErrField, hits: isMisshapen},
		{kind: api.ErrTag, hits: hasNoRule},
		{kind: api.ErrTwice, hits: isRepeated},
		{kind: api.ErrInd, hits: hasWrongIndicator},
		{kind: api.ErrCode, hits: hasWrongCode},
		{kind: api.ErrTwice, hits: hasRepeatedCode},
	}
}

// firstProblem returns the kind of the first problem of a field, or OK.
func firstProblem(tests []fieldTest, v visit) api.Errno {
	for _, t := range tests {
		if t.hits(v) {
			return t.kind
		}
	}
	return api.OK
}

func isControl(f api.Field) bool { return strings.HasPrefix(f.Tag, "00") }

func isMisshapen(v visit) bool {
	f := v.field
	if isControl(f) {
		return f.Ind != "" || len(f.Subs) != 0
	}
	return f.Data != "" || len(f.Ind) != 2 || len(f.Subs) == 0
}

func hasNoRule(v visit) bool { return v.rule == nil }

func isRepeated(v visit) bool { return v.rule.Once && v.again }

// hasWrongIndicator leaves out control fields, which have no indicators. (The tests of codes need not: control fields have no subfields.)
func hasWrongIndicator(v visit) bool {
	if isControl(v.field) {
		return false
	}
	first, second := v.field.Ind[0], v.field.Ind[1]
	return !occurs(first, v.rule.Ind[0]) || !occurs(second, v.rule.Ind[1])
}

func hasWrongCode(v visit) bool {
	for _, s := range v.field.Subs {
		if !occurs(s.Code, v.rule.Codes) {
			return true
		}
	}
	return false
}

func hasRepeatedCode(v visit) bool {
	var seen [256]bool
	for _, s := range v.field.Subs {
		if seen[s.Code] && occurs(s.Code, v.rule.Single) {
			return true
		}
		seen[s.Code] = true
	}
	return false
}

// occurs says whether a byte, not a character, is in a set.
func occurs(b byte, set string) bool { return strings.IndexByte(set, b) >= 0 }
