package authority_test

import (
	"math"

	"pinakes/api"
	"pinakes/sample"
)

// someFeeds makes feeds that are right, of few agencies and headings, of which no two have the same number and agency.
func someFeeds(q *sample.Sequence, most int) []api.Feed {
	type place struct{ number, agency int }
	known := map[place]bool{}
	var feeds []api.Feed
	for range q.Below(most + 1) {
		x := someFeed(q, most)
		if p := (place{x.Number, x.Agency}); !known[p] {
			known[p] = true
			feeds = append(feeds, x)
		}
	}
	return feeds
}

// someFeed makes a feed that is right. Those with small numbers often make headings.
func someFeed(q *sample.Sequence, most int) api.Feed {
	x := api.Feed{Agency: sample.One(q, 1, 1, 1, 2, 3, math.MaxInt), Number: 1 + q.Below(most), Kind: 1 + q.Below(5)}
	if q.Below(20) == 0 {
		x.Number = sample.One(q, 1, 2, math.MaxInt, math.MaxInt-1, 1<<32+1)
	}
	if x.Number < most/3 && q.Below(3) > 0 {
		x.Kind = api.FeedNew
	}
	x.Heading, x.To = someHeading(q), someHeading(q)
	switch x.Kind {
	case api.FeedSplit:
		x.Text = someWord(q)
	case api.FeedMerge:
		x.Text = sample.One(q, "", "", "...", "Sea", "a b")
	default:
		x.Text = someName(q)
		x.To = sample.One(q, 0, 0, -1, x.To, math.MinInt)
	}
	return x
}

func someHeading(q *sample.Sequence) int {
	return sample.One(q, 1, 1, 2, 2, 3, 3, 4, 5, 6, 7, 10, math.MaxInt)
}

func someName(q *sample.Sequence) string {
	return sample.One(q, "Sea", "SEA.", "Sea stories", "sea - Stories", "Twain, Mark", "twain mark", "Ёлка", "елка", "e\u0301", "E", "1", "2")
}

func someWord(q *sample.Sequence) string {
	return sample.One(q, "Songs", "songs", "SONGS!", " sea ", "e\u0301", "É", "1", "елка")
}

// someRecord makes a record whose fields often refer to headings.
func someRecord(q *sample.Sequence) api.Record {
	r := api.Record{Kind: byte(q.Next()), Level: byte(q.Next())}
	for range q.Below(8) {
		tag := sample.One(q, "100", "110", "600", "650", "700", "245", "245", "651", "10", "")
		f := field(tag, sample.One(q, "  ", "10", ""))
		for range q.Below(5) {
			switch code := "00aabx\x00"[q.Below(7)]; {
			case tag == "245":
				f.Subs = append(f.Subs, api.Sub{Code: code, Text: someWord(q)})
			case code == '0':
				f.Subs = append(f.Subs, api.Sub{Code: code, Text: sample.One(q, "1", "2", "3", "4", "10", "9223372036854775807", "0", "-1", "01", "+2", "", "x", "8")})
			default:
				f.Subs = append(f.Subs, api.Sub{Code: code, Text: someName(q)})
			}
		}
		r.Fields = append(r.Fields, f)
	}
	return r
}
