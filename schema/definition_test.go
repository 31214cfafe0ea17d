package schema_test

import (
	"slices"
	"strings"

	"pinakes/api"
	"pinakes/sample"
)

// This file says what the chapter defines, in its words and without regard to speed.

func isDefinedMatch(tag, ruleTag string) bool {
	for i := range min(len(tag), len(ruleTag)) {
		permitted := ruleTag[i : i+1]
		if permitted == "x" {
			permitted = "x0123456789"
		}
		if !strings.Contains(permitted, tag[i:i+1]) {
			return false
		}
	}
	return len(tag) == len(ruleTag)
}

func isControl(f api.Field) bool { return len(f.Tag) >= 2 && f.Tag[:2] == "00" }

func isShaped(f api.Field) bool {
	switch {
	case isControl(f):
		return len(f.Ind)+len(f.Subs) == 0
	default:
		return len(f.Data) == 0 && len(f.Ind) == 2 && len(f.Subs) >= 1
	}
}

func checkByDefinition(rules []api.Rule, r api.Record) []api.Problem {
	var problems []api.Problem
	for n, f := range r.Fields {
		if kind := kindByDefinition(rules, r.Fields[:n], f); kind != api.OK {
			problems = append(problems, problem(n, kind))
		}
	}
	for _, rule := range rules {
		matching := slices.IndexFunc(r.Fields, func(f api.Field) bool { return isDefinedMatch(f.Tag, rule.Tag) })
		if rule.Must && matching < 0 {
			problems = append(problems, missing)
		}
	}
	return problems
}

// kindByDefinition returns the first of the six problems of a field that stands behind others.
func kindByDefinition(rules []api.Rule, earlier []api.Field, f api.Field) api.Errno {
	if !isShaped(f) {
		return api.ErrField
	}
	number := slices.IndexFunc(rules, func(rule api.Rule) bool { return isDefinedMatch(f.Tag, rule.Tag) })
	if number < 0 {
		return api.ErrTag
	}
	rule := rules[number]
	if rule.Once && slices.ContainsFunc(earlier, func(e api.Field) bool { return e.Tag == f.Tag }) {
		return api.ErrTwice
	}
	if isControl(f) {
		return api.OK
	}
	if !strings.Contains(rule.Ind[0], f.Ind[:1]) || !strings.Contains(rule.Ind[1], f.Ind[1:]) {
		return api.ErrInd
	}
	codes := ""
	for _, s := range f.Subs {
		codes += oneByte(int(s.Code))
	}
	for _, code := range sample.Singles(codes) {
		if !strings.Contains(rule.Codes, code) {
			return api.ErrCode
		}
	}
	for _, code := range sample.Singles(rule.Single) {
		if strings.Count(codes, code) > 1 {
			return api.ErrTwice
		}
	}
	return api.OK
}
