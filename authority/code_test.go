package authority_test

import (
	"math"
	"slices"
	"strings"
	"testing"

	"pinakes/api"
	"pinakes/authority"
	"pinakes/codec"
)

// P8.6: a known code.
func TestCode(t *testing.T) {
	expectCode(t, authority.New(), "\x00")
	f := fileOf(t, []api.Feed{{Agency: 2, Number: 64, Kind: api.FeedNew, Heading: 3, To: -1, Text: "Sea"}, {Agency: 3, Number: 1, Kind: api.FeedMerge, Heading: 1, To: 2}})
	expectCode(t, f, "\x04"+"\x06\x05\x06\x02\x08\x02\x04"+"\x00"+"\x07\x05\x04\x80\x01\x02\x06\x01"+"\x03Sea")
}

// P8.6: the text of a feed stays as it was, byte by byte, and so do numbers without a meaning.
func TestCodeOfTexts(t *testing.T) {
	for _, text := range []string{"Sea", " SEA.", "\xffa", "e\u0301", "\x00a\x00", strings.Repeat("long ", 3000), "Ёлка"} {
		for _, to := range []int{0, -1, 1, math.MaxInt, math.MinInt} {
			x := created(1, text)
			x.To = to
			y := merged(2, 3)
			y.Number, y.Text = 2, text
			feeds := []api.Feed{x, y}
			f := fileOf(t, feeds)
			expectCode(t, f, codeOf(feeds))
			expectRefused(t, f, feeds[1:])
			expectRefused(t, expectOpen(t, codeOf(feeds)), feeds[1:])
		}
	}
}

// openByDefinition returns the feeds that a code denotes, and whether it is one.
func openByDefinition(s string) ([]api.Feed, bool) {
	texts, e := codec.Unpack(s)
	var feeds []api.Feed
	for ; e == api.OK && len(texts) >= 2; texts = texts[2:] {
		n, wrong := codec.ReadInts(texts[0])
		if wrong != api.OK || len(n) != 5 {
			return nil, false
		}
		x := api.Feed{Agency: n[0], Number: n[1], Kind: n[2], Heading: n[3], To: n[4], Text: texts[1]}
		if takeByDefinition(feeds, x) != api.OK {
			return nil, false
		}
		feeds = append(feeds, x)
	}
	return feeds, e == api.OK && len(texts) == 0 && slices.Equal(feeds, inOrder(feeds))
}

// expectOpened compares Open with the definition, and says whether s is a code.
func expectOpened(t *testing.T, s string) bool {
	t.Helper()
	feeds, right := openByDefinition(s)
	if !right {
		expectNoFile(t, s)
		return false
	}
	expectFile(t, expectOpen(t, s), feeds)
	return true
}

// codeFeeds returns feeds of each kind, with numbers of one byte and of several.
func codeFeeds() []api.Feed {
	feeds := numbered(created(1, "Sea"), created(300, "b"), renamed(1, "c d"), alias(1, "e"), merged(300, 1), split(1, 300, "f"))
	feeds[3].Agency, feeds[4].Number, feeds[5].Number = 70, 200, math.MaxInt
	return feeds
}

// P8.6: each byte of a code as every other one.
func TestChangedCodes(t *testing.T) {
	feeds := codeFeeds()
	s := codeOf(feeds)
	expectFile(t, expectOpen(t, s), feeds)
	right := 0
	for i := range len(s) {
		for c := range 256 {
			if byte(c) != s[i] && expectOpened(t, s[:i]+string([]byte{byte(c)})+s[i+1:]) {
				right++
			}
		}
	}
	if right < 1000 {
		t.Errorf("only %d changed codes are right", right)
	}
}

// P8.6: codes that are cut off and lengthened, and without or with a byte somewhere.
func TestLengthsOfCodes(t *testing.T) {
	s := codeOf(codeFeeds())
	for i := range len(s) {
		expectNoFile(t, s[:i])
		expectOpened(t, s[i+1:])
		expectOpened(t, s[:i]+s[i+1:])
		for _, c := range []string{"\x00", "\x01", "\x02", "a", "\x80", "\xff"} {
			expectNoFile(t, s+c)
			expectNoFile(t, s+s[:i]+c)
			expectOpened(t, s[:i]+c+s[i:])
		}
	}
	for _, t2 := range []string{"\x00\x00", "\x01", "\x01\x00", "\x02", "\x02\x00", "\x02\x00\x00", "\x80", "\x80\x00", "\xff", "a", strings.Repeat("\xff", 9) + "\x01", strings.Repeat("\xff", 9) + "\x02", strings.Repeat("\xff", 100)} {
		expectNoFile(t, t2)
	}
	expectFile(t, expectOpen(t, "\x00"), nil)
}

// packed returns the pack of feeds as they are.
func packed(feeds ...api.Feed) string {
	var texts []string
	for _, x := range feeds {
		texts = append(texts, codec.Ints([]int{x.Agency, x.Number, x.Kind, x.Heading, x.To}), x.Text)
	}
	return codec.Pack(texts)
}

// P8.6: feeds out of order, equal, with the same number and agency, and not right.
func TestFeedsOfCodes(t *testing.T) {
	feeds := codeFeeds()
	permute(feeds, 0, func(l []api.Feed) {
		if s := packed(l...); slices.Equal(l, codeFeeds()) {
			expectOpen(t, s)
		} else {
			expectNoFile(t, s)
		}
	})
	a, b, c := created(1, "a"), created(1, "b"), created(2, "a")
	c.Agency = 2
	expectOpen(t, packed(a, c))
	expectNoFile(t, packed(c, a))
	expectNoFile(t, packed(a, a))
	expectNoFile(t, packed(a, b))
	expectNoFile(t, packed(b, a))
	expectNoFile(t, packed(a, c, c))
	expectNoFile(t, packed(a, a, c))
	expectNoFile(t, packed(a, c, a))
	for _, x := range oneOfEachKind() {
		for _, change := range []func(x *api.Feed){
			func(x *api.Feed) { x.Agency = 0 }, func(x *api.Feed) { x.Number = 0 }, func(x *api.Feed) { x.Heading = 0 }, func(x *api.Feed) { x.Kind = 0 }, func(x *api.Feed) { x.Kind = 6 },
			func(x *api.Feed) { x.Agency = -1 }, func(x *api.Feed) { x.Number = math.MinInt }, func(x *api.Feed) { x.Heading = -5 }, func(x *api.Feed) { x.To = 0 }, func(x *api.Feed) { x.Text = "..." },
		} {
			y := x
			change(&y)
			expectOpened(t, packed(y))
			expectOpened(t, packed(y, c))
			y.Number += 10
			expectOpened(t, packed(c, y))
		}
	}
}

// P8.6: a wrong number of integers or of strings.
func TestFormOfCodes(t *testing.T) {
	numbers := []int{1, 1, 1, 1, 0}
	expectOpen(t, codec.Pack([]string{codec.Ints(numbers), "Sea"}))
	for many := range 5 {
		expectNoFile(t, codec.Pack([]string{codec.Ints(numbers[:many]), "Sea"}))
	}
	expectNoFile(t, codec.Pack([]string{codec.Ints(append(numbers, 0)), "Sea"}))
	expectNoFile(t, codec.Pack([]string{codec.Ints(numbers) + "\x00", "Sea"}))
	expectNoFile(t, codec.Pack([]string{"", "Sea"}))
	expectNoFile(t, codec.Pack([]string{codec.Ints(numbers)}))
	expectNoFile(t, codec.Pack([]string{"Sea", codec.Ints(numbers)}))
	expectNoFile(t, codec.Pack([]string{codec.Ints(numbers), "Sea", codec.Ints([]int{2, 2, 1, 1, 0})}))
	expectNoFile(t, codec.Pack([]string{codec.Ints(numbers), "Sea", ""}))
	expectNoFile(t, codec.Pack([]string{codec.Ints(numbers), "Sea", "", ""}))
}

// P8.6: the limit.
func TestLimitOfCodes(t *testing.T) {
	feeds := manyFeeds(5001)
	f := expectOpen(t, packed(feeds[:5000]...))
	expectTake(t, f, feeds[5000], api.ErrMany)
	expectNoFile(t, packed(feeds...))
	expectNoFile(t, packed(append(feeds, feeds...)...))
}

// P8.6, P8.1: an opened file goes on as the one whose code it was.
func TestOpenedFile(t *testing.T) {
	feeds := codeFeeds()
	for i := range feeds {
		f := expectOpen(t, codeOf(feeds[:i]))
		for k, x := range feeds {
			if k < i {
				expectTake(t, f, x, api.ErrTwice)
			} else {
				expectTake(t, f, x, api.OK)
			}
		}
		expectFile(t, f, feeds)
	}
}
