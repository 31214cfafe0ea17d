package merge_test

import (
	"slices"
	"testing"

	"pinakes/api"
	"pinakes/merge"
	"pinakes/sample"
)

// distinct returns the versions of a list without those that have the same record and number as one before.
func distinct(l []api.Version) []api.Version {
	var list []api.Version
	for _, v := range l {
		if !slices.ContainsFunc(list, func(w api.Version) bool { return w.From == v.From && w.Number == v.Number }) {
			list = append(list, v)
		}
	}
	return list
}

// expectSame checks that two lists have the same latest versions, and the same merged record.
func expectSame(t *testing.T, l, other []api.Version) {
	t.Helper()
	if a, b := merge.Latest(l), merge.Latest(other); !slices.EqualFunc(a, b, equalVersions) {
		t.Errorf("Latest of %s: %s, but of %s: %s", shown(l), shown(a), shown(other), shown(b))
	}
	if a, b := merge.Merge(l), merge.Merge(other); !equalMerged(a, b) {
		t.Errorf("Merge of %s: %s, but of %s: %s", shown(l), shown(a), shown(other), shown(b))
	}
}

// P7.4: the order of the list plays no part, as long as no two versions have the same record and number.
func TestOrderOfTheList(t *testing.T) {
	q := sample.Sequence(92)
	others := 0
	for range 8000 {
		l := distinct(someList(&q))
		expectSame(t, l, sample.Shuffled(&q, l))
		if len(latestByDefinition(l)) < len(l) {
			others++
		}
	}
	if others < 1000 {
		t.Errorf("only %d lists have versions that do not count", others)
	}
	// Otherwise it does: the first one counts.
	a, b := version(1, 1, 1, plain("245", "a")), version(1, 1, 1, plain("245", "b"))
	expectMerged(t, []api.Version{a, b}, a, by(1, 1, plain("245", "a")))
	expectMerged(t, []api.Version{b, a}, a, by(1, 1, plain("245", "b")))
}

// P7.4: versions that do not count play no part.
func TestVersionsThatDoNotCount(t *testing.T) {
	q := sample.Sequence(93)
	for range 8000 {
		l := someList(&q)
		versions := merge.Latest(l)
		expectSame(t, l, versions)
		expectSame(t, l, sample.Shuffled(&q, versions))
		for i := len(l) - 1; i >= 0; i-- {
			if !countsByDefinition(l, i) && q.Below(2) == 0 {
				l = slices.Delete(l, i, i+1)
			}
		}
		expectSame(t, l, versions)
	}
}

// P7.4: without a source, all is as if it had never said anything, and it is named nowhere.
func TestSourceThatSaysNothing(t *testing.T) {
	q := sample.Sequence(94)
	named := 0
	for range 8000 {
		source := someSource(&q)
		others := slices.DeleteFunc(someList(&q), func(v api.Version) bool { return v.From.Source == source })
		l := slices.Clone(others)
		for range q.Below(4) {
			at := q.Below(len(l) + 1)
			l = slices.Insert(l, at, version(source, someNumber(&q), someNumber(&q), someFields(&q)...))
		}
		ofSource := func(r api.Rec) bool { return r.Source == source }
		if slices.ContainsFunc(merge.Merge(l).From, ofSource) {
			named++
		}
		expectWithout(t, l, source, others...)
		expectSame(t, merge.Without(l, source), others)
		if m := merge.Merge(merge.Without(l, source)); slices.ContainsFunc(m.From, ofSource) {
			t.Errorf("Merge of %s without %d: %s", shown(l), source, shown(m))
		}
	}
	if named < 2000 {
		t.Errorf("only %d of the sources are named before", named)
	}
}

// P7.4: the merged record, merged alone, has the same fields.
func TestMergedRecordAlone(t *testing.T) {
	q := sample.Sequence(95)
	for range 8000 {
		m := merge.Merge(someList(&q))
		alone := api.Version{From: rec(someSource(&q), someNumber(&q)), Number: someNumber(&q), Record: m.Record}
		expectMerged(t, []api.Version{alone}, alone, by(alone.From.Source, alone.From.Number, m.Record.Fields...))
	}
}

// P7.4: each field that a version has which counts, with a tag of the policy all, is alike one of the result, and each field of the result is one of the record that From names.
func TestEachFieldIsAlikeOne(t *testing.T) {
	q := sample.Sequence(96)
	for range 8000 {
		l := someList(&q)
		m, versions := merge.Merge(l), latestByDefinition(l)
		for _, v := range versions {
			for _, f := range v.Record.Fields {
				isAlike := func(g api.Field) bool { return alikeByDefinition(f, g) }
				if policyByDefinition(f.Tag) == "all" && !slices.ContainsFunc(m.Record.Fields, isAlike) {
					t.Errorf("no field of %s is alike %s", shown(m), shown(f))
				}
			}
		}
		if len(m.From) != len(m.Record.Fields) {
			t.Fatalf("%d fields of %d records", len(m.Record.Fields), len(m.From))
		}
		for i, f := range m.Record.Fields {
			says := func(v api.Version) bool {
				return v.From == m.From[i] && slices.ContainsFunc(v.Record.Fields, func(g api.Field) bool { return sample.EqualFields(f, g) })
			}
			if !slices.ContainsFunc(versions, says) {
				t.Errorf("field %s is not one of %v", shown(f), m.From[i])
			}
		}
	}
}

// P7.2, P7.4: each tag is merged for itself: fields with other tags change nothing.
func TestTagsForThemselves(t *testing.T) {
	q := sample.Sequence(97)
	for range 8000 {
		l := someList(&q)
		m := merge.Merge(l)
		tag := someField(&q).Tag
		isOther := func(f api.Field) bool { return f.Tag != tag }
		alone := copiesOf(l)
		for i := range alone {
			alone[i].Record.Fields = slices.DeleteFunc(alone[i].Record.Fields, isOther)
		}
		var want []said
		for i, f := range m.Record.Fields {
			if !isOther(f) {
				want = append(want, said{m.From[i], f})
			}
		}
		first := api.Version{Record: m.Record}
		expectMerged(t, alone, first, want)
	}
}
