package match_test

import (
	"slices"
	"strings"
	"testing"

	"pinakes/api"
	"pinakes/match"
	"pinakes/sample"
)

// P6.5: points do not depend on case, marks and signs in authors, and in titles behind the bytes that are skipped.
func TestPointsOfTheSameLetters(t *testing.T) {
	q := sample.Sequence(84)
	equal := 0
	for range 20000 {
		a, b := someRecord(&q), someRecord(&q)
		want := match.Points(a, b)
		expectPoints(t, rewritten(&q, a), rewritten(&q, b), want)
		expectPoints(t, a, rewritten(&q, a), match.Points(a, a))
		if want >= 45 {
			equal++
		}
	}
	if equal < 500 {
		t.Errorf("only %d of the pairs have a title and an author, or a number, in common", equal)
	}
	for _, s := range []string{"Σίσυφος, Ακρόπολη", "Ёлка, Щепка", "Łódź, Ærø"} {
		for _, other := range []string{strings.ToUpper(s), strings.ToLower(s), strings.ReplaceAll(s, ",", " /"), s + "."} {
			expectPoints(t, record(title(s), author(s)), record(title(other), author(other)), 45)
		}
	}
}

// rewritten returns a record with the same words in its titles and authors.
func rewritten(q *sample.Sequence, r api.Record) api.Record {
	r = sample.CopyOf(r)
	for _, f := range r.Fields {
		if f.Tag != "100" && f.Tag != "245" {
			continue
		}
		skip := 0
		if f.Tag == "245" && f.Ind[1] == '4' {
			skip = 4
		}
		for i := range f.Subs {
			s := &f.Subs[i]
			part := min(skip, len(s.Text)) // the titles of someRecord have one subfield
			s.Text = s.Text[:part] + rewrittenText(q, s.Text[part:])
		}
	}
	return r
}

// rewrittenText changes the case of letters, puts marks behind them, and other signs, or more of them, in the places of signs.
func rewrittenText(q *sample.Sequence, s string) string {
	var b strings.Builder
	for _, c := range s {
		switch {
		case strings.ContainsRune(" ,./-", c):
			b.WriteString(q.Join([]string{" ", ",", " / ", "-", "...", "\u00a0", "\t", "日"}, 1))
		case q.Below(2) == 0:
			b.WriteString(strings.ToUpper(string(c)) + q.Join([]string{"", "\u0301", "\u0308", "\ufe20"}, 1))
		default:
			b.WriteString(strings.ToLower(string(c)) + q.Join([]string{"", "\u0327", "\u030a\u0301"}, 1))
		}
	}
	return b.String() + q.Join([]string{"", " ", ".", " :"}, 1)
}

// P6.5: a record with a title and an author, or with a book number, is the same as itself.
func TestRecordsAreTheSameAsThemselves(t *testing.T) {
	q := sample.Sequence(85)
	same, others := 0, 0
	for range 20000 {
		r := someRecord(&q)
		expectPoints(t, r, r, pointsByDefinition(r, r))
		if len(bookNumbersOf(r)) > 0 || len(titleOf(r)) > 0 && len(authorOf(r)) > 0 {
			same++
			if match.Points(r, r) < 40 || !match.Same(r, r) {
				t.Errorf("%s has %d points with itself", shown(r), match.Points(r, r))
			}
			expectPairs(t, []api.Record{r, sample.CopyOf(r)}, [2]int{0, 1})
		} else if !match.Same(r, r) {
			others++
		}
	}
	if same < 5000 || others < 1000 {
		t.Errorf("%d records must be the same as themselves, and %d are not", same, others)
	}
	expectPoints(t, record(title("X"), author("Y")), record(title("X"), author("Y")), 45)
	expectPoints(t, record(numbers(one)), record(numbers(one)), 50)
	expectPoints(t, record(title("X")), record(title("X")), 30)
	expectPoints(t, record(author("Y"), year("1984")), record(author("Y"), year("1984")), 25)
}

// P6.5: if records are exchanged, the pairs are the same but for their indices.
func TestPairsOfExchangedRecords(t *testing.T) {
	q := sample.Sequence(86)
	for range 1500 {
		l := someList(&q)
		places := make([]int, len(l)) // where each record of the other list is in l
		for i := range places {
			places[i] = i
		}
		shuffle(&q, len(places), func(i, k int) { places[i], places[k] = places[k], places[i] })
		var other []api.Record
		for _, place := range places {
			other = append(other, l[place])
		}
		var got [][2]int
		for _, p := range match.Pairs(other) {
			i, k := places[p[0]], places[p[1]]
			got = append(got, [2]int{min(i, k), max(i, k)})
		}
		slices.SortFunc(got, func(p, q [2]int) int { return slices.Compare(p[:], q[:]) })
		expectPairs(t, l, got...)
	}
}

// P6.1, P6.3: Level, other fields, other subfields, and the order of the fields 020 have no effect.
func TestWhatHasNoEffect(t *testing.T) {
	q := sample.Sequence(87)
	for range 10000 {
		a, b := someRecord(&q), someRecord(&q)
		want := match.Points(a, b)
		other := sample.CopyOf(a)
		other.Level = byte(q.Next())
		extra := []api.Field{field("700", "1 ", "aX"), field("246", "00", "aX"), control("001", "850101s1984"), field("264", "  ", "c1984"), field("", "", "a"+one), {}}
		at := q.Below(len(other.Fields) + 1)
		other.Fields = slices.Insert(other.Fields, at, extra[q.Below(len(extra))])
		for i := range other.Fields {
			f := &other.Fields[i]
			if f.Tag >= "010" {
				f.Data = q.Bytes(q.Below(4))
				f.Subs = append(f.Subs, api.Sub{Code: 'z', Text: one})
			}
		}
		mixNumbers(&q, other.Fields)
		expectPoints(t, other, b, want)
		expectPoints(t, a, other, match.Points(a, a))
		expectPairs(t, []api.Record{other, b, a}, match.Pairs([]api.Record{a, b, a})...)
	}
}

// mixNumbers exchanges fields 020.
func mixNumbers(q *sample.Sequence, fields []api.Field) {
	var places []int
	for i, f := range fields {
		if f.Tag == "020" {
			places = append(places, i)
		}
	}
	shuffle(q, len(places), func(i, k int) {
		i, k = places[i], places[k]
		fields[i], fields[k] = fields[k], fields[i]
	})
}

// P6.4: the parts do not depend on the order of the pairs, nor on that of the numbers in them, and pairs within a part change nothing.
func TestPartsOfExchangedPairs(t *testing.T) {
	q := sample.Sequence(88)
	for range 10000 {
		n := q.Below(20)
		var pairs [][2]int
		for range q.Below(20) {
			pairs = append(pairs, [2]int{someIndex(&q, n), someIndex(&q, n)})
		}
		want := match.Parts(n, pairs)
		other := slices.Clone(pairs)
		for i, p := range other {
			if q.Below(2) == 0 {
				other[i] = [2]int{p[1], p[0]}
			}
		}
		shuffle(&q, len(other), func(i, k int) { other[i], other[k] = other[k], other[i] })
		expectParts(t, n, other, want...)
		for _, part := range want {
			other = append(other, [2]int{part[len(part)-1], part[0]})
		}
		expectParts(t, n, other, want...)
	}
}
