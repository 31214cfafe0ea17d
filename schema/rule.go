package schema

import "pinakes/api"

// rulesOfTags returns the rule of each tag that a field has: nil for a tag that matches none. Many fields may share a tag, so each tag is looked for only once.
func rulesOfTags(rules []api.Rule, fields []api.Field) map[string]*api.Rule {
	found := map[string]*api.Rule{}
search:
	for _, f := range fields {
		if _, known := found[f.Tag]; known {
			continue
		}
		for n := range rules {
			if matches(f.Tag, rules[n].Tag) {
				found[f.Tag] = &rules[n]
				continue search
			}
		}
		found[f.Tag] = nil
	}
	return found
}

// isMissing says whether no tag matches a rule. A tag that does may still have another rule, an earlier one.
func isMissing(rule api.Rule, tags map[string]*api.Rule) bool {
	for tag := range tags {
		if matches(tag, rule.Tag) {
			return false
		}
	}
	return true
}

// matches says whether a tag matches a rule with this Tag.
func matches(tag, ruleTag string) bool {
	if len(tag) != len(ruleTag) {
		return false
	}
	for i := range len(tag) {
		if tag[i] != ruleTag[i] && !(ruleTag[i] == 'x' && isDigit(tag[i])) {
			return false
		}
	}
	return true
}

func isDigit(b byte) bool { return '0' <= b && b <= '9' }
