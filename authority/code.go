package authority

import (
	"pinakes/api"
	"pinakes/codec"
)

// Encode returns the feeds of the file as bytes.
func (f *File) Encode() string {
	if f == nil {
		return ""
	}
	texts := make([]string, 0, 2*len(f.feeds))
	for _, x := range f.feeds {
		texts = append(texts, codec.Ints([]int{x.Agency, x.Number, x.Kind, x.Heading, x.To}), x.Text)
	}
	return codec.Pack(texts)
}

// Open returns the file whose code s is.
func Open(s string) (*File, api.Errno) {
	texts, e := codec.Unpack(s)
	if e != api.OK || len(texts)%2 != 0 {
		return nil, api.ErrForm
	}
	f := New()
	for i := 0; i < len(texts); i += 2 {
		x, denoted := feedOf(texts[i], texts[i+1])
		if !denoted || !f.isBehindAll(x) || f.Take(x) != api.OK {
			return nil, api.ErrForm
		}
	}
	return f, api.OK
}

// feedOf returns the feed that two strings of a code denote, and whether they denote one.
func feedOf(numbers, text string) (api.Feed, bool) {
	n, e := codec.ReadInts(numbers)
	if e != api.OK || len(n) != 5 {
		return api.Feed{}, false
	}
	return api.Feed{Agency: n[0], Number: n[1], Kind: n[2], Heading: n[3], To: n[4], Text: text}, true
}

// isBehindAll says whether the feeds of the file, and then x, are in order.
func (f *File) isBehindAll(x api.Feed) bool {
	return len(f.feeds) == 0 || compareFeeds(f.feeds[len(f.feeds)-1], x) < 0
}
