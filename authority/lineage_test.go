package authority_test

import (
	"slices"
	"strings"
	"testing"

	"pinakes/api"
	"pinakes/authority"
	"pinakes/sample"
)

// headings returns feeds that make the headings from 1 on.
func headings(many int) []api.Feed {
	var feeds []api.Feed
	for h := 1; h <= many; h++ {
		feeds = append(feeds, created(h, "Heading "+string(rune('a'+h%26))))
	}
	return feeds
}

// expectLineage takes feeds behind those that make headings; the last one is refused, or it is not, whether it is a merge or a split.
func expectLineage(t *testing.T, isRefused bool, feeds ...api.Feed) {
	t.Helper()
	last := feeds[len(feeds)-1]
	for _, x := range []api.Feed{merged(last.Heading, last.To), split(last.Heading, last.To, "songs"), split(last.Heading, last.To, "other")} {
		all := append(headings(6), feeds[:len(feeds)-1]...)
		all = numbered(append(all, x)...)
		if isRefused {
			expectFeeds(t, all, len(all)-1)
		} else {
			expectFeeds(t, all)
		}
	}
}

// P8.2, P8.8: merges and splits that would lead back, directly and over several headings, over merges and over splits.
func TestLineagesThatWouldLeadBack(t *testing.T) {
	expectLineage(t, true, merged(1, 1))
	expectLineage(t, true, merged(1, 2), merged(2, 1))
	expectLineage(t, true, split(1, 2, "songs"), merged(2, 1))
	expectLineage(t, false, split(1, 2, "songs"), merged(1, 2)) // twice the same is not back
	expectLineage(t, false, merged(1, 2), merged(2, 3))
	expectLineage(t, true, merged(1, 2), merged(2, 3), merged(3, 1))
	expectLineage(t, true, split(1, 2, "a"), merged(2, 3), merged(3, 1))
	expectLineage(t, true, merged(1, 2), split(2, 3, "a"), merged(3, 1))
	expectLineage(t, true, split(1, 2, "a"), split(2, 3, "b"), merged(3, 1))
	expectLineage(t, true, merged(1, 2), merged(2, 3), merged(3, 4), split(4, 5, "a"), merged(5, 6), merged(6, 1))
	expectLineage(t, true, merged(1, 2), merged(2, 3), merged(3, 4), split(4, 5, "a"), merged(5, 6), merged(6, 3))
	expectLineage(t, false, merged(1, 2), merged(2, 3), merged(4, 5), merged(3, 4))
	expectLineage(t, false, merged(1, 2), merged(3, 2), merged(2, 4))
	// Each of several splits is followed, also behind one that leads to a known heading.
	expectLineage(t, true, split(1, 2, "a"), split(1, 3, "b"), split(1, 4, "c"), merged(4, 1))
	expectLineage(t, true, split(1, 2, "a"), split(1, 3, "b"), split(1, 4, "c"), merged(3, 1))
	expectLineage(t, true, split(1, 2, "a"), split(1, 3, "b"), split(1, 4, "c"), merged(2, 1))
	expectLineage(t, true, split(1, 2, "a"), split(1, 3, "b"), split(2, 4, "a"), split(3, 4, "a"), split(3, 5, "a"), merged(5, 1))
	expectLineage(t, false, split(1, 2, "a"), split(1, 3, "b"), split(2, 4, "a"), split(3, 4, "a"), split(3, 5, "a"), merged(5, 6))
	expectLineage(t, true, split(1, 2, "a"), split(1, 3, "b"), split(2, 4, "a"), split(3, 4, "a"), split(4, 5, "a"), merged(5, 2))
	expectLineage(t, true, split(1, 2, "a"), split(1, 2, "b"), split(1, 2, "a"), merged(2, 1))
}

// P8.2: a merged heading does not lead to its splits any more.
func TestSplitsOfMergedHeadings(t *testing.T) {
	expectLineage(t, false, split(1, 2, "a"), merged(1, 3), merged(2, 1))
	expectLineage(t, false, split(1, 2, "a"), split(1, 4, "b"), merged(1, 3), merged(4, 1))
	expectLineage(t, true, split(1, 2, "a"), merged(1, 3), merged(3, 1))
	expectLineage(t, true, split(1, 2, "a"), merged(1, 3), split(3, 2, "a"), merged(2, 1))
	expectLineage(t, true, split(1, 2, "a"), merged(1, 2), merged(2, 1))
	expectLineage(t, false, split(1, 2, "a"), merged(1, 3), split(2, 1, "b"), merged(2, 3))
	expectLineage(t, true, split(1, 2, "a"), merged(1, 3), merged(2, 1), merged(3, 2))
	expectLineage(t, false, split(1, 2, "a"), split(2, 3, "b"), merged(2, 4), merged(3, 1))
	f := fileOf(t, numbered(append(headings(3), split(1, 2, "songs"), merged(1, 3))...))
	expectResolve(t, f, 1, "songs", 3, true)
}

// P8.2, P8.8: the lineages of all lists of three merges and splits of three headings.
func TestAllShortLineages(t *testing.T) {
	var some []api.Feed
	for h := 1; h <= 3; h++ {
		for to := 1; to <= 3; to++ {
			some = append(some, merged(h, to), split(h, to, "songs"))
		}
	}
	for _, a := range some {
		for _, b := range some {
			for _, c := range some {
				feeds := numbered(append(headings(3), a, b, c, merged(2, 1))...)
				f := fileOf(t, feeds)
				s := stateByDefinition(feeds)
				if got := f.Refused(); !slices.Equal(got, s.refused) {
					t.Errorf("Refused of %s: %s, want %s", shown(feeds), shown(got), shown(s.refused))
				}
				for h := 1; h <= 3; h++ {
					for _, title := range []string{"", "songs"} {
						last, there := s.resolve(h, title)
						expectResolve(t, f, h, title, last, there)
					}
				}
			}
		}
	}
}

// P8.4: there is no such heading; titles without words; splits whose word the title has, and has not.
func TestResolve(t *testing.T) {
	feeds := numbered(append(headings(6), split(1, 2, "Songs"), split(1, 3, "SEA"), split(2, 4, "sea"), merged(5, 1))...)
	expectFeeds(t, feeds)
	f := fileOf(t, feeds)
	for _, heading := range []int{7, 0, -1, 1<<32 + 1} {
		expectResolve(t, f, heading, "songs", 0, false)
	}
	for title, want := range map[string]int{
		"": 1, "...": 1, "\xff": 1, "Tom Sawyer": 1, "song": 1, "songss": 1, "s ongs": 1, "sea-songs of old": 4, "songs": 2, "Old SONGS /": 2,
		"(sóngs)": 2, "sea": 3, "The Sea": 3, "songs sea": 4, "sea songs": 4, "the\xffsea": 3, "seasongs": 1, "sea's": 3,
	} {
		expectResolve(t, f, 1, title, want, true)
		expectResolve(t, f, 5, title, want, true)
		expectResolve(t, f, 6, title, 6, true)
		expectResolve(t, f, 3, title, 3, true)
	}
	expectResolve(t, f, 2, "sea", 4, true)
	expectResolve(t, f, 2, "songs", 2, true)
}

// P8.4: of several splits of a heading with the same word, and of several whose words a title has, the first one counts, in the order of the feeds.
func TestFirstSplit(t *testing.T) {
	feeds := numbered(append(headings(6), split(1, 3, "songs"), split(1, 2, "SONGS"), split(1, 4, "sea"), split(1, 5, "tales"))...)
	expectFeeds(t, feeds)
	f := fileOf(t, feeds)
	expectResolve(t, f, 1, "songs", 3, true)
	expectResolve(t, f, 1, "sea songs", 3, true)
	expectResolve(t, f, 1, "tales of the sea", 4, true)
	expectResolve(t, f, 1, "tales", 5, true)
	early := split(1, 6, "songs")
	early.Agency, early.Number = 2, 6
	expectTake(t, f, early, api.OK)
	expectResolve(t, f, 1, "songs", 6, true)
	expectResolve(t, f, 1, "sea songs", 6, true)
	expectResolve(t, f, 1, "tales of the sea", 4, true)
	expectFeeds(t, append(feeds, early))
}

// P8.4: renaming does not change what a heading leads to.
func TestResolveOfRenamedHeadings(t *testing.T) {
	feeds := numbered(append(headings(3), split(1, 2, "songs"), renamed(1, "One"), renamed(2, "Two"), merged(3, 1), renamed(1, "Uno"))...)
	expectFeeds(t, feeds)
	f := fileOf(t, feeds)
	expectResolve(t, f, 3, "songs", 2, true)
	expectResolve(t, f, 3, "", 1, true)
}

// P8.4, P1: long lineages, of merges and of splits, in both directions, with questions after each feed and without.
func TestLongLineages(t *testing.T) {
	const many = 2400
	for _, make := range []func(h, to int) api.Feed{merged, func(h, to int) api.Feed { return split(h, to, "songs") }} {
		for _, back := range []bool{false, true} {
			feeds := headings(many)
			for h := 1; h < many; h++ {
				if back {
					feeds = append(feeds, make(many-h, many-h+1))
				} else {
					feeds = append(feeds, make(h, h+1))
				}
			}
			feeds = numbered(append(feeds, merged(many, 1), split(many, 1, "x"), split(many, many/2, "songs"))...)
			f := fileOf(t, feeds)
			expectRefused(t, f, feeds[len(feeds)-3:])
			expectResolve(t, f, 1, "Old songs", many, true)
			expectResolve(t, f, many/2, "Old songs", many, true)
			asked := authority.New()
			for _, x := range feeds {
				expectTake(t, asked, x, api.OK)
				asked.Resolve(1, "songs")
			}
			expectRefused(t, asked, feeds[len(feeds)-3:])
			expectResolve(t, asked, 1, "Old songs", many, true)
		}
	}
}

// P1: headings that are split into each other in all ways.
func TestManyWays(t *testing.T) {
	const many = 90
	feeds := headings(many)
	for h := many; h >= 1; h-- {
		for to := h + 1; to <= many; to++ {
			feeds = append(feeds, split(h, to, "w"+strings.Repeat("x", to)))
		}
	}
	feeds = numbered(append(feeds, merged(many, 1), merged(many/2, 2))...)
	f := fileOf(t, feeds)
	expectRefused(t, f, feeds[len(feeds)-2:])
	expectResolve(t, f, 1, "of w"+strings.Repeat("x", 5)+" and w"+strings.Repeat("x", many), many, true)
	q := sample.Sequence(98)
	expectRefused(t, fileOf(t, sample.Shuffled(&q, feeds)), feeds[len(feeds)-2:])
}
