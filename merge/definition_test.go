package merge_test

import (
	"regexp"
	"slices"
	"testing"

	"pinakes/api"
	"pinakes/keys"
	"pinakes/sample"
)

// This file says what the chapter defines, in its words and without regard to speed.

func countsByDefinition(l []api.Version, place int) bool {
	v := l[place]
	for i, w := range l {
		if w.From == v.From && (w.Number > v.Number || i < place && w.Number == v.Number) {
			return false
		}
	}
	return true
}

func isBefore(a, b api.Rec) bool {
	return a.Source < b.Source || a.Source == b.Source && a.Number < b.Number
}

func latestByDefinition(l []api.Version) []api.Version {
	var list []api.Version
	for i, v := range l {
		if !countsByDefinition(l, i) {
			continue
		}
		place := 0
		for place < len(list) && isBefore(list[place].From, v.From) {
			place++
		}
		list = slices.Insert(list, place, v)
	}
	return list
}

var (
	localTags = regexp.MustCompile(`^9`)
	firstTags = regexp.MustCompile(`^00|^(010|040|100|110|245)$`)
)

func policyByDefinition(tag string) string {
	switch {
	case localTags.MatchString(tag):
		return "local"
	case firstTags.MatchString(tag):
		return "first"
	default:
		return "all"
	}
}

func alikeByDefinition(f, g api.Field) bool {
	return f.Tag == g.Tag && f.Data == g.Data && slices.EqualFunc(f.Subs, g.Subs, func(s, u api.Sub) bool {
		return s.Code == u.Code && keys.Fold(s.Text) == keys.Fold(u.Text)
	})
}

// tagsByDefinition returns the tags of versions, in order.
func tagsByDefinition(versions []api.Version) []string {
	var tags []string
	for _, v := range versions {
		for _, f := range v.Record.Fields {
			tags = append(tags, f.Tag)
		}
	}
	slices.SortFunc(tags, func(a, b string) int { return slices.Compare([]byte(a), []byte(b)) })
	return slices.Compact(tags)
}

// saidByDefinition returns what is said with a tag, as the policy of the tag wants it.
func saidByDefinition(versions []api.Version, tag string) []said {
	var list []said
	for _, v := range versions {
		for _, f := range v.Record.Fields {
			isAlike := func(s said) bool { return alikeByDefinition(s.field, f) }
			if f.Tag == tag && !(policyByDefinition(tag) == "all" && slices.ContainsFunc(list, isAlike)) {
				list = append(list, said{v.From, f})
			}
		}
		if policyByDefinition(tag) == "first" && len(list) > 0 {
			break
		}
	}
	return list
}

// expectDefined compares Latest and Merge of a list with the definition.
func expectDefined(t *testing.T, l []api.Version) {
	t.Helper()
	versions := latestByDefinition(l)
	expectLatest(t, l, versions...)
	if len(versions) == 0 {
		expectMerged(t, l, api.Version{})
		return
	}
	var parts [][]said
	for _, tag := range tagsByDefinition(versions) {
		parts = append(parts, saidByDefinition(versions, tag))
	}
	expectMerged(t, l, versions[0], parts...)
}

// P7.1 to P7.3: arbitrary lists.
func TestArbitraryLists(t *testing.T) {
	q := sample.Sequence(91)
	left, alike, old := 0, 0, 0
	for range 15000 {
		l := someList(&q)
		expectDefined(t, l)
		source := someSource(&q)
		var others []api.Version
		for _, v := range l {
			if v.From.Source != source {
				others = append(others, v)
			}
		}
		expectWithout(t, l, source, others...)
		if n := len(latestByDefinition(l)); n < len(l) {
			old++
		}
		if len(others) > 0 && len(others) < len(l) {
			left++
		}
		if hasAlikeFields(l) {
			alike++
		}
	}
	if left < 1500 || alike < 1500 || old < 1500 {
		t.Errorf("only %d lists have several sources, %d fields that are alike, and %d versions that do not count", left, alike, old)
	}
}

// hasAlikeFields says whether versions that count have fields that differ, but are alike, with a tag that has the policy all.
func hasAlikeFields(l []api.Version) bool {
	var fields []api.Field
	for _, v := range latestByDefinition(l) {
		fields = append(fields, v.Record.Fields...)
	}
	for i, f := range fields {
		for _, g := range fields[:i] {
			if policyByDefinition(f.Tag) == "all" && alikeByDefinition(f, g) && !sample.EqualFields(f, g) {
				return true
			}
		}
	}
	return false
}
