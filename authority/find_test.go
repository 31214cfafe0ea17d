package authority_test

import (
	"strings"
	"testing"

	"pinakes/api"
)

// P8.3: Name of headings that are there, and of others; the text stays as it was, byte by byte.
func TestName(t *testing.T) {
	feeds := numbered(created(1, "Clemens, Samuel"), created(3, " [Twain] \xff, MARK. "), alias(3, "Twain, M."), merged(1, 3))
	expectFeeds(t, feeds)
	f := fileOf(t, feeds)
	expectName(t, f, 1, "Clemens, Samuel", true) // also of a merged heading
	expectName(t, f, 3, " [Twain] \xff, MARK. ", true)
	for _, heading := range []int{2, 0, -1, 4, 1<<32 + 1} {
		expectName(t, f, heading, "", false)
	}
}

// P8.3: Find compares folded texts.
func TestFind(t *testing.T) {
	f := fileOf(t, numbered(created(5, "Twain, Mark"), created(7, "Ёлка"), alias(7, "Strauße"), created(9, "Twain")))
	for text, want := range map[string]int{
		"Twain, Mark": 5, "twain mark": 5, " TWAIN / mark": 5, "Twa\u0301in, Márk": 5, "Twain\xffMark": 5, "ЕЛКА": 7, "ёлка.": 7, "strausse": 7, "Twain": 9, "twain, ...": 9,
	} {
		expectFind(t, f, text, want, true)
	}
	for _, text := range []string{"Mark, Twain", "Twain Mar", "TwainMark", "Twain, Mark (music)", "Tw ain Mark", "mark", "strause"} {
		expectFind(t, f, text, 0, false)
	}
}

// P8.3: texts that fold to nothing are not found.
func TestFindOfNothing(t *testing.T) {
	f := fileOf(t, numbered(created(1, "a"), created(2, "b"), renamed(1, "c"), merged(2, 1)))
	for _, text := range []string{"", " ", "...", "\u0301", "日", "\xff", "\x00", strings.Repeat(" ", 100000)} {
		expectFind(t, f, text, 0, false)
	}
}

// P8.3: of several headings with a name the least one is found, and a name comes before another name, whatever the order of the feeds is.
func TestFindOfSeveral(t *testing.T) {
	expectFound := func(want int, feeds ...api.Feed) {
		t.Helper()
		feeds = numbered(feeds...)
		if refused := stateByDefinition(feeds).refused; len(refused) > 0 {
			t.Errorf("refused: %s", shown(refused))
		}
		expectFeeds(t, feeds)
		expectFind(t, fileOf(t, feeds), "SEA!", want, want > 0)
	}
	expectFound(0, created(1, "One"))
	expectFound(2, created(2, "Sea"), created(3, "sea"))
	expectFound(2, created(3, "sea"), created(2, "Sea"))
	expectFound(2, created(10, "sea"), created(2, "SEA"), created(9, "[Sea]"))
	expectFound(10, created(10, "sea"), created(9, "[Sea]"), renamed(9, "Ocean"))
	expectFound(9, created(10, "sea"), created(9, "Ocean"), renamed(9, "Sea"))
	expectFound(3, created(1, "One"), alias(1, "sea"), created(3, "Sea"))
	expectFound(3, created(3, "Sea"), created(1, "One"), alias(1, "sea"))
	expectFound(1, created(1, "One"), alias(1, "sea"), created(3, "Three"), alias(3, "sea"))
	expectFound(1, created(3, "Three"), alias(3, "sea"), created(1, "One"), alias(1, "sea"))
	expectFound(1, created(1, "Sea"), alias(1, "sea"), created(3, "Sea"))
	expectFound(3, created(1, "Sea"), created(3, "Sea"), renamed(1, "One"))
	expectFound(1, created(1, "Sea"), created(3, "Sea"), renamed(1, "One"), renamed(3, "Three"))
	expectFound(1, created(1, "Sea"), created(3, "Sea"), renamed(3, "Three"), renamed(1, "One"))
	expectFound(2, created(1, "Sea"), created(2, "Sea"), created(3, "Sea"), renamed(1, "One"))
	expectFound(1, created(1, "Sea"), created(2, "Sea"), created(3, "Sea"), renamed(2, "Two"))
	expectFound(3, created(1, "Sea"), created(2, "Sea"), created(3, "Sea"), renamed(2, "Two"), renamed(1, "One"))
	expectFound(1, created(1, "Sea"), created(2, "Sea"), merged(1, 2))
	expectFound(1, created(1, "Sea"), created(2, "Sea"), split(1, 2, "sea"))
}

// P8.3: names that a heading had before are found, also if it had several, and if it has one of them again.
func TestFormerNames(t *testing.T) {
	feeds := numbered(created(1, "First"), renamed(1, "Second"), renamed(1, "SECOND"), renamed(1, "Third"), renamed(1, "first"), created(2, "Second"), renamed(2, "Two"))
	expectFeeds(t, feeds)
	f := fileOf(t, feeds)
	for text, want := range map[string]int{"first": 1, "second": 1, "third": 1, "two": 2} {
		expectFind(t, f, text, want, true)
	}
	expectName(t, f, 1, "first", true)
	// The name of a heading that was renamed back comes before the other name of a lesser one.
	feeds = numbered(created(1, "Sea"), renamed(1, "One"), created(2, "Two"), renamed(2, "Sea"), renamed(2, "Two"), renamed(2, "Sea"))
	expectFeeds(t, feeds)
	expectFind(t, fileOf(t, feeds), "sea", 2, true)
}

// P8.3: merged headings are found by their names, and split ones are.
func TestFindOfMergedAndSplitHeadings(t *testing.T) {
	feeds := numbered(created(1, "One"), alias(1, "I"), created(2, "Two"), merged(1, 2), created(3, "Three"), split(2, 3, "One"), created(4, "One"))
	expectFeeds(t, feeds)
	f := fileOf(t, feeds)
	for text, want := range map[string]int{"one": 1, "i": 1, "two": 2, "three": 3} {
		expectFind(t, f, text, want, true)
	}
}
