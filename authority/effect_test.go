package authority_test

import (
	"testing"

	"pinakes/api"
)

// threeHeadings returns feeds that make headings 1, 2 and 3, and 4, which is merged into 1.
func threeHeadings() []api.Feed {
	return []api.Feed{created(1, "One"), created(2, "Two"), created(3, "Three"), created(4, "Four"), merged(4, 1)}
}

// expectAfter takes feeds, numbered in this order, behind those of threeHeadings. The last one is refused, or it is not.
func expectAfter(t *testing.T, isRefused bool, feeds ...api.Feed) {
	t.Helper()
	feeds = numbered(append(threeHeadings(), feeds...)...)
	if isRefused {
		expectFeeds(t, feeds, len(feeds)-1)
	} else {
		expectFeeds(t, feeds)
	}
}

// P8.2: each kind is refused for each of its reasons, and is not refused if one of them is missing.
func TestReasonsForRefusal(t *testing.T) {
	expectAfter(t, false, created(5, "Five"))
	for _, heading := range []int{1, 2, 4} { // also a merged one
		expectAfter(t, true, created(heading, "Five"))
	}
	for _, kind := range oneOfEachKind()[1:] {
		for heading, isRefused := range map[int]bool{1: false, 2: false, 3: false, 4: true, 5: true, 1<<32 + 1: true} {
			x := kind
			x.Heading = heading
			x.To = 1
			if heading == 1 {
				x.To = 2
			}
			expectAfter(t, isRefused, x)
		}
	}
	for _, x := range oneOfEachKind()[3:] {
		x.Heading = 1
		for to, isRefused := range map[int]bool{1: true, 2: false, 3: false, 4: true, 5: true, 1<<32 + 2: true} {
			x.To = to
			expectAfter(t, isRefused, x)
		}
		x.Heading, x.To = 2, 4 // a merged heading that does not lead back
		expectAfter(t, false, x)
	}
}

// P8.2, P8.3: a refused feed has no effect: neither its name nor its lineage is known.
func TestRefusedFeedsHaveNoEffect(t *testing.T) {
	feeds := numbered(append(threeHeadings(), created(1, "Again"), renamed(5, "Five"), renamed(4, "Vier"), alias(4, "IV"), merged(4, 2), split(4, 2, "songs"), merged(1, 1), split(1, 1, "songs"), merged(1, 5), split(1, 5, "songs"), merged(5, 1), split(1, 4, "songs"))...)
	f := fileOf(t, feeds)
	expectRefused(t, f, feeds[5:])
	for _, text := range []string{"Again", "Five", "Vier", "IV", "songs"} {
		expectFind(t, f, text, 0, false)
	}
	expectName(t, f, 1, "One", true)
	expectName(t, f, 4, "Four", true)
	expectName(t, f, 5, "", false)
	expectResolve(t, f, 1, "songs", 1, true)
	expectResolve(t, f, 4, "songs", 1, true)
	expectResolve(t, f, 5, "songs", 0, false)
	expectFeeds(t, feeds, 5, 6, 7, 8, 9, 10, 11, 12, 13, 14, 15, 16)
}

// P8.2, P8.8: a feed in front of the one that makes its heading is refused, until an earlier one makes it.
func TestFeedsBeforeTheirHeading(t *testing.T) {
	feeds := numbered(renamed(1, "Sea"), alias(1, "Ocean"), split(1, 2, "songs"), merged(1, 2), created(1, "One"), created(2, "Two"))
	expectFeeds(t, feeds, 0, 1, 2, 3)
	early := []api.Feed{created(1, "First"), created(2, "Second")}
	for i := range early {
		early[i].Agency, early[i].Number = i+2, 1
		feeds = append(feeds, early[i])
	}
	// In order: rename (1.1, refused), new 1, new 2, see, split, merge, and the two that are too late.
	expectFeeds(t, feeds, 0, 6, 7)
	f := fileOf(t, feeds[:6])
	expectName(t, f, 1, "One", true)
	expectTake(t, f, early[0], api.OK)
	expectName(t, f, 1, "First", true)
	expectResolve(t, f, 1, "", 1, true)
	expectTake(t, f, early[1], api.OK)
	expectResolve(t, f, 1, "", 2, true)
	expectFind(t, f, "ocean", 1, true)
	expectFind(t, f, "One", 0, false)
}

// P8.2, P8.8: feeds with the same number are in the order of their agencies; the number comes first.
func TestOrderOfAgencies(t *testing.T) {
	a, b, c := created(1, "A"), created(1, "B"), created(1, "C")
	a.Agency, a.Number = 9, 1
	b.Agency, b.Number = 10, 1
	c.Agency, c.Number = 1, 2
	expectFeeds(t, []api.Feed{a, b, c}, 1, 2)
	f := fileOf(t, []api.Feed{c})
	expectName(t, f, 1, "C", true)
	expectTake(t, f, b, api.OK)
	expectName(t, f, 1, "B", true)
	expectTake(t, f, a, api.OK)
	expectName(t, f, 1, "A", true)
	expectRefused(t, f, []api.Feed{b, c})
}

// P8.2, P8.8: all orders of a few feeds.
func TestAllOrders(t *testing.T) {
	feeds := numbered(created(1, "Clemens, Samuel"), created(2, "Twain, Mark"), alias(2, "Twain, M."), merged(1, 2), created(3, "Twain, Mark (music)"), split(2, 3, "Songs"))
	feeds = append(feeds, merged(3, 1))
	feeds[6].Agency, feeds[6].Number = 2, 4
	many := 0
	permute(feeds, 0, func(feeds []api.Feed) {
		many++
		f := fileOf(t, feeds)
		expectCode(t, f, codeOf(feeds))
		expectRefused(t, f, stateByDefinition(feeds).refused)
		if many%100 == 0 {
			expectFile(t, f, feeds)
		}
	})
	if many != 5040 {
		t.Errorf("%d orders", many)
	}
}

// permute visits all orders of the elements of a list from a place on.
func permute[T any](l []T, from int, visit func(l []T)) {
	if from == len(l) {
		visit(l)
		return
	}
	for i := from; i < len(l); i++ {
		l[from], l[i] = l[i], l[from]
		permute(l, from+1, visit)
		l[from], l[i] = l[i], l[from]
	}
}

// The examples of the chapter.
func TestExamples(t *testing.T) {
	feeds := numbered(created(1, "Clemens, Samuel"), created(2, "Twain, Mark"), alias(2, "Twain, M."), merged(1, 2), created(3, "Twain, Mark (music)"), split(2, 3, "Songs"))
	f := fileOf(t, feeds)
	expectFind(t, f, "CLEMENS, Samuel", 1, true)
	expectResolve(t, f, 1, "Tom Sawyer", 2, true)
	expectResolve(t, f, 1, "Old songs", 3, true)
	r := record("Tom Sawyer", field("700", "1 ", "atwain m"))
	expectRewrite(t, f, r, record("Tom Sawyer", field("700", "1 ", "aTwain, Mark", "02")))
	feeds = numbered(append(feeds, merged(3, 1))...)
	expectTake(t, f, feeds[6], api.OK)
	expectRefused(t, f, feeds[6:])
	expectFeeds(t, feeds, 6)
}
