package merge_test

import (
	"math"

	"pinakes/api"
	"pinakes/sample"
)

// someList makes versions of few records, with few numbers, so that they often have one in common.
func someList(q *sample.Sequence) []api.Version {
	var l []api.Version
	for range q.Below(9) {
		v := version(someSource(q), someNumber(q), someNumber(q), someFields(q)...)
		if q.Below(3) == 0 && len(l) > 0 {
			v.From = l[q.Below(len(l))].From
		}
		if q.Below(6) == 0 && len(l) > 0 {
			v.Record = l[q.Below(len(l))].Record // which shares its memory
		}
		l = append(l, v)
	}
	return l
}

func someSource(q *sample.Sequence) int {
	return sample.One(q, 1, 1, 2, 2, 3, 0, -1, math.MaxInt, math.MinInt)
}

func someNumber(q *sample.Sequence) int {
	return sample.One(q, 1, 1, 1, 2, 2, 3, 0, -1, -2, 1<<32+1, math.MaxInt, math.MaxInt-1, math.MinInt, math.MinInt+1)
}

func someFields(q *sample.Sequence) []api.Field {
	var fields []api.Field
	for range q.Below(9) {
		fields = append(fields, someField(q))
	}
	return fields
}

func someField(q *sample.Sequence) api.Field {
	tag := sample.One(q, "001", "008", "00", "010", "040", "100", "110", "111", "245", "246", "246", "650", "650", "650", "65", "", "9", "900", "é")
	f := api.Field{Tag: tag, Ind: sample.One(q, "  ", "10", "", "1")}
	if q.Below(8) == 0 {
		f.Data = sample.One(q, "x", "X", "\x00")
	}
	for range q.Below(4) {
		f.Subs = append(f.Subs, api.Sub{Code: "aaaab\x00"[q.Below(6)], Text: someText(q)})
	}
	return f
}

func someText(q *sample.Sequence) string {
	return sample.One(q, "Sea", "SEA", "sea.", "s\u0301ea", "séa", "seas", "", "-", "日", "\x00", "\xff", "Ёлка", "елка")
}
