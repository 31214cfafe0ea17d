package authority_test

import (
	"slices"
	"testing"

	"pinakes/api"
	"pinakes/authority"
	"pinakes/keys"
	"pinakes/sample"
)

// P8.7: a nil file.
func TestNilFile(t *testing.T) {
	var f *authority.File
	for _, x := range append(oneOfEachKind(), api.Feed{}) {
		expectTake(t, f, x, api.ErrArg)
	}
	expectRefused(t, f, nil)
	for _, heading := range []int{0, 1, -1} {
		expectName(t, f, heading, "", false)
		expectResolve(t, f, heading, "songs", 0, false)
	}
	for _, text := range []string{"", "Sea", "1"} {
		expectFind(t, f, text, 0, false)
	}
	q := sample.Sequence(99)
	for range 200 {
		r := someRecord(&q)
		expectRewrite(t, f, r, r)
	}
	expectCode(t, f, "")
	expectNoFile(t, "")
}

// P8.7: a zero file is like that of New.
func TestZeroFile(t *testing.T) {
	for _, f := range []*authority.File{{}, new(authority.File), authority.New()} {
		expectFile(t, f, nil)
		r := record("Songs", field("100", "1 ", "atwain m", "01"))
		expectRewrite(t, f, r, r)
		expectTake(t, f, api.Feed{}, api.ErrArg)
		expectFile(t, f, nil)
	}
	var zero authority.File
	feeds := codeFeeds()
	for i, x := range feeds {
		expectTake(t, &zero, x, api.OK)
		expectFile(t, &zero, feeds[:i+1])
	}
}

// P8.1 to P8.6, P8.8: arbitrary feeds in arbitrary orders, some of them twice, with questions in between.
func TestArbitraryFeeds(t *testing.T) {
	q := sample.Sequence(100)
	refused, carriedOut := 0, 0
	for range 600 {
		feeds := someFeeds(&q, 40)
		f, g := authority.New(), authority.New()
		for i, x := range feeds {
			expectTake(t, f, x, api.OK)
			if q.Below(6) == 0 {
				expectFile(t, f, feeds[:i+1])
				expectTake(t, f, sample.One(&q, feeds[:i+1]...), api.ErrTwice)
			}
		}
		for _, x := range sample.Shuffled(&q, feeds) {
			expectTake(t, g, x, api.OK)
			if q.Below(3) == 0 {
				g.Refused()
			}
		}
		expectFile(t, f, feeds)
		expectFile(t, g, feeds)
		refused += len(f.Refused())
		carriedOut += len(feeds) - len(f.Refused())
	}
	if refused < 2000 || carriedOut < 4000 {
		t.Errorf("only %d feeds are refused, and %d are carried out", refused, carriedOut)
	}
}

// P8.1: arbitrary feeds, right ones and others, and the errors of Take.
func TestArbitraryErrors(t *testing.T) {
	q := sample.Sequence(101)
	count := map[api.Errno]int{}
	for range 1500 {
		f := authority.New()
		var feeds []api.Feed
		for range 30 {
			x := someFeed(&q, 15)
			switch q.Below(11) {
			case 0:
				x.Heading = q.Integer()
			case 1:
				x.Number, x.Agency = q.Integer(), q.Integer()
			case 2:
				x.Kind = q.Below(8) - 1
			case 3:
				x.Text = sample.One(&q, "", ".", "a", "a b", "\xff")
			case 4:
				x.To = q.Integer()
			case 5:
				x = sample.One(&q, append(feeds, x)...)
			}
			e := takeByDefinition(feeds, x)
			count[e]++
			expectTake(t, f, x, e)
			if e == api.OK {
				feeds = append(feeds, x)
			}
		}
		expectFile(t, f, feeds)
	}
	for _, e := range []api.Errno{api.OK, api.ErrArg, api.ErrTwice, api.ErrOld} {
		if count[e] < 100 {
			t.Errorf("error %d only %d times", e, count[e])
		}
	}
}

// P8.5, P8.8: arbitrary records; what was rewritten stays as it is.
func TestArbitraryRecords(t *testing.T) {
	q := sample.Sequence(102)
	changed := 0
	for range 600 {
		feeds := someFeeds(&q, 40)
		f, s := fileOf(t, feeds), stateByDefinition(feeds)
		for range 30 {
			r := someRecord(&q)
			want := s.rewrite(r)
			expectRewrite(t, f, r, want)
			expectRewrite(t, f, want, want)
			if !sample.Equal(r, want) {
				changed++
			}
		}
	}
	if changed < 3000 {
		t.Errorf("only %d records were changed", changed)
	}
}

// P8.8: no heading reaches itself by way of others; Resolve ends with a heading that is not merged, and leads no further.
func TestEndsOfLineages(t *testing.T) {
	q := sample.Sequence(103)
	moved := 0
	for range 1500 {
		feeds := someFeeds(&q, 40)
		f, s := fileOf(t, feeds), stateByDefinition(feeds)
		for _, h := range s.headings {
			if many := count(s.reached(h.number), h.number); many != 1 {
				t.Errorf("%s: heading %d reaches itself", shown(feeds), h.number)
			}
			for _, title := range titlesOf(feeds) {
				last, _ := f.Resolve(h.number, title)
				if g := s.heading(last); g == nil || g.merged {
					t.Errorf("%s: Resolve(%d, %s): %d, which is merged", shown(feeds), h.number, shown(title), last)
				}
				expectResolve(t, f, last, title, last, true)
				if last != h.number {
					moved++
				}
			}
		}
	}
	if moved < 3000 {
		t.Errorf("only %d headings lead to others", moved)
	}
}

func count(l []int, n int) int {
	return len(slices.DeleteFunc(slices.Clone(l), func(m int) bool { return m != n }))
}

// P8.8: a heading is still found by all names that it had, unless another heading has that name.
func TestNamesAreNotLost(t *testing.T) {
	q := sample.Sequence(104)
	found := 0
	for range 1500 {
		feeds := inOrder(someFeeds(&q, 40))
		f := authority.New()
		type naming struct {
			heading int
			folded  string
		}
		known := map[naming]bool{}
		refused := fileOf(t, feeds).Refused()
		for _, x := range feeds {
			expectTake(t, f, x, api.OK)
			if !slices.Contains(refused, x) && (x.Kind == api.FeedNew || x.Kind == api.FeedName || x.Kind == api.FeedSee) {
				known[naming{x.Heading, keys.Fold(x.Text)}] = true
			}
		}
		for n := range known {
			h, there := f.Find(n.folded)
			if !there || h != n.heading && !known[naming{h, n.folded}] {
				t.Errorf("%s: Find(%s): %d, %v, but heading %d has this name", shown(feeds), n.folded, h, there, n.heading)
			}
			found++
		}
	}
	if found < 5000 {
		t.Errorf("only %d names", found)
	}
}
