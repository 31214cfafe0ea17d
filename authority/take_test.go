package authority_test

import (
	"math"
	"strings"
	"testing"

	"pinakes/api"
	"pinakes/authority"
)

// oneOfEachKind returns a right feed of each kind.
func oneOfEachKind() []api.Feed {
	return []api.Feed{created(1, "Sea"), renamed(1, "Sea"), alias(1, "Sea"), merged(1, 2), split(1, 2, "Sea")}
}

// expectOne takes a feed into an empty file.
func expectOne(t *testing.T, x api.Feed, want api.Errno) {
	t.Helper()
	if by := takeByDefinition(nil, x); by != want {
		t.Errorf("by the definition, Take(%s): error %d, want %d", shown(x), by, want)
	}
	f := authority.New()
	expectTake(t, f, x, want)
	if want == api.OK {
		expectCode(t, f, codeOf([]api.Feed{x}))
	} else {
		expectCode(t, f, "\x00")
	}
}

// P8.1: numbers at 0, at 1 and at the ends of the range, for each kind.
func TestNumbersOfFeeds(t *testing.T) {
	for _, x := range oneOfEachKind() {
		for _, n := range []int{math.MinInt, math.MinInt + 1, -1 << 32, -2, -1, 0, 1, 2, 3, 1 << 32, math.MaxInt - 1, math.MaxInt} {
			want := api.OK
			if n < 1 {
				want = api.ErrArg
			}
			for _, part := range []func(x *api.Feed) *int{
				func(x *api.Feed) *int { return &x.Agency },
				func(x *api.Feed) *int { return &x.Number },
				func(x *api.Feed) *int { return &x.Heading },
			} {
				y := x
				*part(&y) = n
				expectOne(t, y, want)
			}
			y := x
			y.To = n
			if x.Kind == api.FeedMerge || x.Kind == api.FeedSplit {
				expectOne(t, y, want)
			} else {
				expectOne(t, y, api.OK)
			}
		}
	}
}

// P8.1: kinds below and above the five.
func TestKindsOfFeeds(t *testing.T) {
	for kind := -300; kind <= 600; kind++ {
		want := api.ErrArg
		if kind >= 1 && kind <= 5 {
			want = api.OK
		}
		expectOne(t, api.Feed{Agency: 1, Number: 1, Kind: kind, Heading: 1, To: 2, Text: "Sea"}, want)
	}
	for _, kind := range []int{math.MinInt, math.MinInt + 1, -1 << 32, 1<<32 + 1, 1 << 62, math.MaxInt} {
		expectOne(t, api.Feed{Agency: 1, Number: 1, Kind: kind, Heading: 1, To: 2, Text: "Sea"}, api.ErrArg)
	}
	expectOne(t, api.Feed{}, api.ErrArg)
}

// P8.1: texts that fold to nothing, to one word and to several, for each kind.
func TestTextsOfFeeds(t *testing.T) {
	nothing := []string{"", " ", "...", " / ", "\u0301", "日本", "\xff", "\x00", "\xc3"}
	one := []string{"a", "Sea", " SEA ", "(sea)", "s\u0301ea", "0", "007", "Ёлка", "ΣΊΣΥΦΟΣ", "\xffa\xff", "日a", strings.Repeat("a", 20000)}
	several := []string{"a b", "Twain, Mark", "O'Neill", "sea-side", "a\xffb", "a日b", "a\x00b", "1 2", strings.Repeat("a ", 20000)}
	for _, x := range oneOfEachKind() {
		for i, texts := range [][]string{nothing, one, several} {
			want := api.OK
			switch x.Kind {
			case api.FeedSplit:
				if i != 1 {
					want = api.ErrArg
				}
			case api.FeedMerge:
			default:
				if i == 0 {
					want = api.ErrArg
				}
			}
			for _, text := range texts {
				x.Text = text
				expectOne(t, x, want)
			}
		}
	}
}

// P8.1: an equal feed, another one with the same number and agency, and feeds that differ in one of the two.
func TestKnownFeeds(t *testing.T) {
	for _, x := range oneOfEachKind() {
		x.Agency, x.Number, x.Heading, x.To, x.Text = 5, 7, 3, 4, "Sea"
		for _, around := range [][]api.Feed{nil, numbered(created(9, "x")), numbered(created(9, "x"), created(9, "y"), created(9, "z"), created(9, "x"), created(9, "x"), created(9, "x"), created(9, "x"), created(9, "x"), created(9, "x"))} {
			feeds := append([]api.Feed{x}, around...)
			f := fileOf(t, feeds)
			expectTake(t, f, x, api.ErrTwice)
			for _, change := range []func(x *api.Feed){
				func(x *api.Feed) { x.Kind = x.Kind%5 + 1 },
				func(x *api.Feed) { x.Heading++ },
				func(x *api.Feed) { x.To++ },
				func(x *api.Feed) { x.Text = "sea" },
				func(x *api.Feed) { x.Text += "s" },
				func(x *api.Feed) { x.Heading, x.To = x.To, x.Heading },
			} {
				y := x
				change(&y)
				expectTake(t, f, y, api.ErrOld)
			}
			expectFile(t, f, feeds)
			for _, change := range []func(x *api.Feed){
				func(x *api.Feed) { x.Agency++ },
				func(x *api.Feed) { x.Agency-- },
				func(x *api.Feed) { x.Agency += 1 << 32 },
				func(x *api.Feed) { x.Number += 1 << 32 },
				func(x *api.Feed) { x.Number += 10 },
				func(x *api.Feed) { x.Agency, x.Number = x.Number, x.Agency },
				func(x *api.Feed) { x.Number = math.MaxInt },
				func(x *api.Feed) { x.Agency = math.MaxInt },
			} {
				y := x
				change(&y)
				expectTake(t, f, y, api.OK)
				feeds = append(feeds, y)
			}
			expectFile(t, f, feeds)
			for _, y := range feeds {
				expectTake(t, f, y, api.ErrTwice)
			}
			expectFile(t, f, feeds)
		}
	}
}

// P8.1, R2: which error comes first.
func TestOrderOfErrors(t *testing.T) {
	x := created(1, "Sea")
	f := fileOf(t, []api.Feed{x})
	y := x
	y.Text = "..."
	expectTake(t, f, y, api.ErrArg) // not ErrOld
	y = x
	y.Kind = 6
	expectTake(t, f, y, api.ErrArg)
	y = x
	y.Kind = api.FeedMerge
	expectTake(t, f, y, api.ErrArg)
	y = x
	y.Heading = 0
	expectTake(t, f, y, api.ErrArg)
	expectFile(t, f, []api.Feed{x})
}

// P8.1: a feed that is refused belongs to the file, too.
func TestRefusedFeedsBelongToTheFile(t *testing.T) {
	feeds := numbered(renamed(1, "Sea"), created(1, "Sea"), created(1, "Sea"))
	f := fileOf(t, feeds)
	expectRefused(t, f, []api.Feed{feeds[0], feeds[2]})
	for _, x := range feeds {
		expectTake(t, f, x, api.ErrTwice)
		x.To = 1
		expectTake(t, f, x, api.ErrOld)
	}
	expectFile(t, f, feeds)
}

// manyFeeds returns feeds with the numbers from 1 on: headings with a few names, each merged into the next one or split from it.
func manyFeeds(many int) []api.Feed {
	var feeds []api.Feed
	for i := range many {
		switch h := i/4 + 1; i % 4 {
		case 0:
			feeds = append(feeds, created(h, "Name"))
		case 1:
			feeds = append(feeds, renamed(h, "Other name"))
		case 2:
			feeds = append(feeds, split(h, max(1, h-1), "songs"))
		case 3:
			feeds = append(feeds, merged(h, max(1, h-1)))
		}
	}
	return numbered(feeds...)
}

// P8.1: the limit of 5000 feeds, refused ones included, and the errors in front of it.
func TestLimitOfFeeds(t *testing.T) {
	feeds := manyFeeds(5000)
	f := fileOf(t, feeds)
	code := codeOf(feeds)
	refused := f.Refused()
	if len(refused) != 2 { // those of the first heading, which lead to itself
		t.Errorf("refused: %s", shown(refused))
	}
	for _, x := range []api.Feed{feeds[0], feeds[2500], feeds[4999]} {
		expectTake(t, f, x, api.ErrTwice)
		y := x
		y.To += 7
		expectTake(t, f, y, api.ErrOld)
		y = x
		y.Agency = 2
		expectTake(t, f, y, api.ErrMany)
		y.Number += 5000
		expectTake(t, f, y, api.ErrMany)
		y.Agency = 0
		expectTake(t, f, y, api.ErrArg)
	}
	expectTake(t, f, api.Feed{Agency: math.MaxInt, Number: math.MaxInt, Kind: api.FeedNew, Heading: 7000, Text: "x"}, api.ErrMany)
	expectCode(t, f, code)
	expectRefused(t, f, refused)
	expectName(t, f, 7000, "", false)
	last := fileOf(t, feeds[:4999])
	expectTake(t, last, feeds[4999], api.OK)
	expectCode(t, last, code)
}
