package authority_test

import (
	"fmt"
	"math"
	"regexp"
	"slices"
	"strings"
	"testing"
	"unsafe"

	"pinakes/api"
	"pinakes/authority"
	"pinakes/codec"
	"pinakes/sample"
)

// The fields of the tests are written in this way.
var field, control = sample.Field, sample.Control

// The feeds of the tests are written in this way; numbered gives them their numbers.

func created(heading int, text string) api.Feed {
	return api.Feed{Agency: 1, Number: 1, Kind: api.FeedNew, Heading: heading, Text: text}
}

func renamed(heading int, text string) api.Feed {
	return api.Feed{Agency: 1, Number: 1, Kind: api.FeedName, Heading: heading, Text: text}
}

func alias(heading int, text string) api.Feed {
	return api.Feed{Agency: 1, Number: 1, Kind: api.FeedSee, Heading: heading, Text: text}
}

func merged(heading, to int) api.Feed {
	return api.Feed{Agency: 1, Number: 1, Kind: api.FeedMerge, Heading: heading, To: to}
}

func split(heading, to int, word string) api.Feed {
	return api.Feed{Agency: 1, Number: 1, Kind: api.FeedSplit, Heading: heading, To: to, Text: word}
}

// numbered returns feeds with the numbers from 1 on.
func numbered(feeds ...api.Feed) []api.Feed {
	feeds = slices.Clone(feeds)
	for i := range feeds {
		feeds[i].Number = i + 1
	}
	return feeds
}

// record makes a record with a title and further fields.
func record(title string, fields ...api.Field) api.Record {
	return api.Record{Kind: 'a', Level: 'm', Fields: append([]api.Field{field("245", "10", "a"+title)}, fields...)}
}

func shown(x any) string {
	s := fmt.Sprintf("%+q", x)
	return s[:min(len(s), 900)]
}

// fileOf returns a file that has taken feeds, in the order of the list.
func fileOf(t *testing.T, feeds []api.Feed) *authority.File {
	t.Helper()
	f := authority.New()
	for _, x := range feeds {
		expectTake(t, f, x, api.OK)
	}
	return f
}

// expectTake compares Take with an error. R3: the text of the feed is not kept, for afterwards it is spoilt.
func expectTake(t *testing.T, f *authority.File, x api.Feed, want api.Errno) {
	t.Helper()
	text := []byte(x.Text)
	given := x
	given.Text = unsafe.String(unsafe.SliceData(text), len(text))
	if e := f.Take(given); e != want {
		t.Errorf("Take(%s): error %d, want %d", shown(x), e, want)
	}
	if given.Text != x.Text {
		t.Errorf("Take(%s) changed the text", shown(x))
	}
	for i := range text {
		text[i] = '#'
	}
}

// expectRefused compares Refused with feeds. R3: the result is new memory; R4: the second call returns the same.
func expectRefused(t *testing.T, f *authority.File, want []api.Feed) {
	t.Helper()
	var texts []string
	for range 2 {
		got := f.Refused()
		if !slices.Equal(got, want) {
			t.Errorf("Refused: %s, want %s", shown(got), shown(want))
			return
		}
		for _, x := range got {
			texts = append(texts, x.Text)
		}
		clear(got[:cap(got)])
	}
	expectOwnTexts(t, "Refused", texts)
}

// expectOwnTexts checks that no two texts have the same memory. One of a byte may: Go has only one of each.
func expectOwnTexts(t *testing.T, name string, texts []string) {
	t.Helper()
	memory := map[*byte]bool{}
	for _, s := range texts {
		if len(s) < 2 {
			continue
		}
		if memory[unsafe.StringData(s)] {
			t.Errorf("%s: the memory of the text %s is shared", name, shown(s))
		}
		memory[unsafe.StringData(s)] = true
	}
}

// expectName compares Name with a text, and with whether there is one. R3 and R4: see expectRefused.
func expectName(t *testing.T, f *authority.File, heading int, want string, there bool) {
	t.Helper()
	var texts []string
	for range 2 {
		got, ok := f.Name(heading)
		if got != want || ok != there {
			t.Errorf("Name(%d): %s, %v, want %s, %v", heading, shown(got), ok, shown(want), there)
		}
		texts = append(texts, got)
	}
	expectOwnTexts(t, "Name", texts)
}

func expectFind(t *testing.T, f *authority.File, text string, want int, there bool) {
	t.Helper()
	for range 2 {
		if got, ok := f.Find(text); got != want || ok != there {
			t.Errorf("Find(%s): %d, %v, want %d, %v", shown(text), got, ok, want, there)
		}
	}
}

func expectResolve(t *testing.T, f *authority.File, heading int, title string, want int, there bool) {
	t.Helper()
	for range 2 {
		if got, ok := f.Resolve(heading, title); got != want || ok != there {
			t.Errorf("Resolve(%d, %s): %d, %v, want %d, %v", heading, shown(title), got, ok, want, there)
		}
	}
}

// expectRewrite compares Rewrite with a record. R3: the argument is not changed, the result is new memory, and no two lists or texts of it share memory; R4: the second call returns the same.
func expectRewrite(t *testing.T, f *authority.File, r, want api.Record) {
	t.Helper()
	given := sample.CopyOf(r)
	old := map[*byte]bool{}
	for _, s := range textsOf(r) {
		old[unsafe.StringData(s)] = true
	}
	var texts []string
	for range 2 {
		got := f.Rewrite(r)
		if !sample.Equal(got, want) {
			t.Errorf("Rewrite of %s: %s, want %s", shown(given), shown(got), shown(want))
			return
		}
		texts = append(texts, textsOf(got)...)
		for i, g := range got.Fields {
			if !sample.EqualFields(g, want.Fields[i]) {
				t.Errorf("Rewrite of %s: field %d shares a list with another one", shown(given), i)
			}
			clear(g.Subs[:cap(g.Subs)])
		}
		clear(got.Fields[:cap(got.Fields)])
	}
	texts = slices.DeleteFunc(texts, smallNumbers.MatchString) // which are constants of the library
	expectOwnTexts(t, "Rewrite of "+shown(given), texts)
	for _, s := range texts {
		if s != "" && old[unsafe.StringData(s)] {
			t.Errorf("Rewrite of %s: the memory of the text %s is shared", shown(given), shown(s))
		}
	}
	if !sample.Equal(r, given) {
		t.Errorf("%s was changed to %s", shown(given), shown(r))
	}
}

var smallNumbers = regexp.MustCompile(`^[0-9]{1,2}$`)

func textsOf(r api.Record) []string {
	var texts []string
	for _, f := range r.Fields {
		texts = append(texts, f.Tag, f.Ind, f.Data)
		for _, s := range f.Subs {
			texts = append(texts, s.Text)
		}
	}
	return texts
}

// codeOf returns the code of a file with feeds.
func codeOf(feeds []api.Feed) string {
	var texts []string
	for _, x := range inOrder(feeds) {
		texts = append(texts, codec.Ints([]int{x.Agency, x.Number, x.Kind, x.Heading, x.To}), x.Text)
	}
	return codec.Pack(texts)
}

func expectCode(t *testing.T, f *authority.File, want string) {
	t.Helper()
	for range 2 {
		if got := f.Encode(); got != want {
			t.Errorf("Encode: %s, want %s", shown(got), shown(want))
		}
	}
}

// expectOpen opens a code that a file has. R3: the code is not kept, for afterwards it is spoilt.
func expectOpen(t *testing.T, s string) *authority.File {
	t.Helper()
	bytes := []byte(s)
	f, e := authority.Open(unsafe.String(unsafe.SliceData(bytes), len(bytes)))
	if e != api.OK || f == nil {
		t.Fatalf("Open(%s): error %d", shown(s), e)
	}
	if string(bytes) != s {
		t.Errorf("Open(%s) changed the code", shown(s))
	}
	clear(bytes)
	expectCode(t, f, s)
	return f
}

func expectNoFile(t *testing.T, s string) {
	t.Helper()
	if f, e := authority.Open(s); e != api.ErrForm || f != nil {
		t.Errorf("Open(%s): error %d", shown(s), e)
	}
}

// expectFile compares all that a file tells with what its feeds say.
func expectFile(t *testing.T, f *authority.File, feeds []api.Feed) {
	t.Helper()
	s := stateByDefinition(feeds)
	expectCode(t, f, codeOf(feeds))
	expectRefused(t, f, s.refused)
	headings, texts, titles := headingsOf(feeds), textsOfFeeds(feeds), titlesOf(feeds)
	for _, heading := range headings {
		name, there := s.name(heading)
		expectName(t, f, heading, name, there)
		for _, title := range titles {
			last, there := s.resolve(heading, title)
			expectResolve(t, f, heading, title, last, there)
		}
	}
	r := record(titles[len(titles)-1])
	for _, text := range texts {
		heading, there := s.find(text)
		expectFind(t, f, text, heading, there)
		r.Fields = append(r.Fields, field("650", "  ", "a"+text))
	}
	expectRewrite(t, f, r, s.rewrite(r))
}

// headingsOf returns the headings of feeds, and others.
func headingsOf(feeds []api.Feed) []int {
	headings := []int{math.MinInt, -1, 0, 1, 2, 1<<32 + 1, math.MaxInt}
	for _, x := range feeds {
		headings = append(headings, x.Heading, x.To)
	}
	slices.Sort(headings)
	return slices.Compact(headings)
}

// textsOfFeeds returns the texts of feeds, and others, some of which fold to the same.
func textsOfFeeds(feeds []api.Feed) []string {
	texts := []string{"", "...", "\xff", "日", "nobody"}
	for _, x := range feeds {
		texts = append(texts, x.Text, strings.ToUpper(x.Text)+" /", x.Text+"x")
	}
	slices.Sort(texts)
	return slices.Compact(texts)
}

// titlesOf returns titles with words of the splits among feeds: with none, with each, and with all.
func titlesOf(feeds []api.Feed) []string {
	titles := []string{"", "no such word"}
	all := "the"
	for _, x := range feeds {
		if x.Kind == api.FeedSplit {
			titles = append(titles, "[Of "+strings.ToUpper(x.Text)+"]")
			all = x.Text + " / " + all
		}
	}
	slices.Sort(titles)
	return append(slices.Compact(titles), all)
}

// expectFeeds takes feeds in their order, in the reverse one and in others, with questions in between and without, and compares the files. The feeds with the given places, in order, are those which are refused.
func expectFeeds(t *testing.T, feeds []api.Feed, refused ...int) {
	t.Helper()
	feeds = inOrder(feeds)
	var want []api.Feed
	for _, place := range refused {
		want = append(want, feeds[place])
	}
	if got := stateByDefinition(feeds).refused; !slices.Equal(got, want) {
		t.Errorf("by the definition, of %s are refused %s, want %s", shown(feeds), shown(got), shown(want))
	}
	expectFile(t, fileOf(t, feeds), feeds)
	back := slices.Clone(feeds)
	slices.Reverse(back)
	expectFile(t, fileOf(t, back), feeds)
	q := sample.Sequence(len(feeds))
	for _, some := range [][]api.Feed{feeds, back, sample.Shuffled(&q, feeds)} {
		f := authority.New()
		for i, x := range some {
			expectTake(t, f, x, api.OK)
			expectRefused(t, f, stateByDefinition(some[:i+1]).refused)
			name, there := stateByDefinition(some[:i+1]).name(x.Heading)
			expectName(t, f, x.Heading, name, there)
		}
		expectFile(t, f, feeds)
		expectFile(t, expectOpen(t, codeOf(feeds)), feeds)
	}
}
