package match_test

import (
	"slices"
	"testing"

	"pinakes/api"
	"pinakes/sample"
)

// someRecord makes a record of few different features, so that two of them often have one in common.
func someRecord(q *sample.Sequence) api.Record {
	r := api.Record{Kind: "aaaam"[q.Below(5)], Level: byte(q.Next())}
	for range q.Below(12) {
		r.Fields = append(r.Fields, someField(q))
	}
	return r
}

func someField(q *sample.Sequence) api.Field {
	if q.Below(12) == 0 {
		return api.Field{Tag: q.Join([]string{"0", "2", "4", "5", "6", "8"}, 3), Ind: "00", Data: q.Bytes(q.Below(13)), Subs: someSubs(q, 'c', "1984")}
	}
	switch q.Below(6) {
	case 0, 1:
		return api.Field{Tag: "020", Ind: "  ", Subs: someSubs(q, 'a', someNumber(q), someNumber(q))}
	case 2:
		return api.Field{Tag: "245", Ind: q.Join([]string{"0", "4"}, 2), Subs: someSubs(q, 'a', someTitle(q))}
	case 3:
		return api.Field{Tag: "100", Ind: "1 ", Subs: someSubs(q, 'a', someAuthor(q))}
	case 4:
		return control("008", q.Join([]string{"850101s", "850101", "85"}, 1)+someYear(q))
	default:
		return api.Field{Tag: "260", Ind: "  ", Subs: someSubs(q, 'c', someYear(q), someYear(q))}
	}
}

// someSubs makes subfields with texts; most of them have the code that counts.
func someSubs(q *sample.Sequence, code byte, texts ...string) []api.Sub {
	var subs []api.Sub
	for _, s := range texts {
		switch q.Below(8) {
		case 0:
			subs = append(subs, api.Sub{Code: "abcz\x00"[q.Below(5)], Text: s})
		case 1:
		default:
			subs = append(subs, api.Sub{Code: code, Text: s})
		}
	}
	return subs
}

func someNumber(q *sample.Sequence) string {
	return q.Join([]string{one, oneShort, two, twoShort + " (pbk.)", "978-3-16-148410-0", "9780306406158", "", "x"}, 1)
}

func someTitle(q *sample.Sequence) string {
	return q.Join([]string{"The stars", "the STARS /", "Die stars", "stars", "The star", "日", "", "\xff"}, 1)
}

func someAuthor(q *sample.Sequence) string {
	return q.Join([]string{"Müller, ", "MULLER ", "Miller ", "", "日"}, 1) + q.Join([]string{"Anna ", "A. ", "Berta ", "", "-"}, 1+q.Below(2))
}

func someYear(q *sample.Sequence) string {
	return q.Join([]string{"", "c", " ", "19"}, 1) + q.Join([]string{"1984", "1985", "1986", "0000", "9999", "19", "198u"}, 1) + q.Join([]string{"", ".", "5", " 1990"}, 1)
}

// varied returns a record with a field more, a field less, or another order of the fields.
func varied(q *sample.Sequence, r api.Record) api.Record {
	r = sample.CopyOf(r)
	if at := q.Below(len(r.Fields) + 1); at < len(r.Fields) && q.Below(2) == 0 {
		r.Fields = slices.Delete(r.Fields, at, at+1)
	} else {
		r.Fields = slices.Insert(r.Fields, at, someField(q))
	}
	if q.Below(4) == 0 {
		shuffle(q, len(r.Fields), func(i, k int) { r.Fields[i], r.Fields[k] = r.Fields[k], r.Fields[i] })
	}
	return r
}

// shuffle brings n things into another order.
func shuffle(q *sample.Sequence, n int, exchange func(i, k int)) {
	for i := range n {
		exchange(i, i+q.Below(n-i))
	}
}

// The records that the tests compare have the features that their names say.
func TestInputs(t *testing.T) {
	for _, x := range []struct {
		r    api.Record
		want [4]int
	}{
		{record(), [4]int{}},
		{exampleA(), [4]int{1, 1, 2, 0}},
		{record(numbers(one, two, oneShort, three), title("X"), author("A B C"), year("1984")), [4]int{3, 1, 3, 1}},
		{record(published("x", "1984")), [4]int{0, 0, 0, 1}},
	} {
		got := [4]int{len(bookNumbersOf(x.r)), len(titleOf(x.r)), len(authorOf(x.r)), len(yearByDefinition(x.r))}
		if got != x.want {
			t.Errorf("%s has features of %v elements, want %v", shown(x.r), got, x.want)
		}
	}
}
