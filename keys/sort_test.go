package keys_test

import (
	"math"
	"strings"
	"testing"

	"pinakes/keys"
	"pinakes/sample"
)

// P5.2: the example of the chapter, and ordinary texts.
func TestSortOfTexts(t *testing.T) {
	expectSort(t, "The 7 Samurai, part 010", 4, "017 samurai part 0210")
	expectSort(t, "The sea", 4, "sea")
	expectSort(t, "L'Été", 2, "ete")
	expectSort(t, "  Nineteen  Eighty-four: ", 0, "nineteen eighty four")
	expectSort(t, "1984", 0, "041984")
	expectSort(t, "2001: a space odyssey", 0, "042001 a space odyssey")
	expectSort(t, "3.14, 10%", 0, "013 0214 0210")
	expectSort(t, "-5", 0, "015")
	expectSort(t, "", 0, "")
}

// P5.2: skip below zero, up to the number of bytes, and above it.
func TestSkip(t *testing.T) {
	const s = "The 12 é"
	for skip, want := range []string{"the 0212 e", "he 0212 e", "e 0212 e", "0212 e", "0212 e", "012 e", "e", "e", "", "", "", ""} {
		expectSort(t, s, skip, want)
	}
	for _, skip := range []int{-1, -2, -8, -100, math.MinInt, math.MinInt + 1} {
		expectSort(t, s, skip, "the 0212 e")
		expectSort(t, "", skip, "")
	}
	for _, skip := range []int{len(s), len(s) + 1, 1000, math.MaxInt} {
		expectSort(t, s, skip, "")
		expectSort(t, "", skip, "")
	}
}

// P5.2: behind a part of a character that is skipped, its rest is no letter; the skipped bytes need not be words.
func TestSkipInTheMiddleOfCharacters(t *testing.T) {
	for skip, want := range []string{"ea", "a", "a", ""} {
		expectSort(t, "éa", skip, want)
	}
	for skip, want := range []string{"x y", "y", "y", "y", "y", ""} {
		expectSort(t, "x€y", skip, want)
	}
	for skip, want := range []string{"abz", "bz", "bz", "bz", "z", ""} {
		expectSort(t, "a\u0301bz", skip, want)
	}
	expectSort(t, "010", 1, "0210")
	expectSort(t, "100", 1, "010")
	expectSort(t, "a10", 1, "0210")
	expectSort(t, " \xff7", 1, "017")
}

// P5.2: words of digits alone.
func TestNumbers(t *testing.T) {
	nines := func(n int) string { return strings.Repeat("9", n) }
	zeros := func(n int) string { return strings.Repeat("0", n) }
	for s, want := range map[string]string{
		"0": "010", "00": "010", "000": "010", zeros(10): "010", zeros(99): "010", zeros(100): "010", zeros(1000): "010",
		"1": "011", "01": "011", "001": "011", "0000000001": "011", "9": "019", "10": "0210", "010": "0210", "0100": "03100",
		nines(8): "08" + nines(8), nines(9): "09" + nines(9), nines(10): "10" + nines(10), nines(11): "11" + nines(11),
		nines(98): "98" + nines(98), nines(99): "99" + nines(99), nines(100): "99" + nines(100), nines(101): "99" + nines(101), nines(1000): "99" + nines(1000),
		"0" + nines(9): "09" + nines(9), "0" + nines(99): "99" + nines(99), zeros(500) + nines(98): "98" + nines(98), zeros(5) + nines(100): "99" + nines(100),
		"1" + zeros(8): "091" + zeros(8), "1" + zeros(9): "101" + zeros(9), "1" + zeros(99): "991" + zeros(99),
	} {
		expectSort(t, s, 0, want)
		expectSort(t, "no. "+s+"/b", 0, "no "+want+" b")
		expectSort(t, s+" "+s, 0, want+" "+want)
		expectSort(t, s[:1]+"\u0301"+s[1:], 0, want) // marks are no part of words
	}
}

// P5.2: words of digits and letters stay as they are, as do digits of other scripts.
func TestWordsWithDigits(t *testing.T) {
	for _, s := range []string{"1a", "a1", "007b", "b007", "0x0", "1a1", "00a00", "9é", "ß0", "1я", "α12"} {
		expectSort(t, s, 0, keys.Fold(s))
	}
	expectSort(t, "²٣", 0, "")
	expectSort(t, "1² 2٣", 0, "011 012")
	expectSort(t, "1-a 0-1", 0, "011 a 010 011")
}

// P5.2: Sort without numbers is Fold of the rest.
func TestSortWithoutNumbers(t *testing.T) {
	q := sample.Sequence(61)
	for range 5000 {
		s := strings.Map(withoutDigits, someText(&q))
		skip := q.Below(len(s) + 2)
		expectSort(t, s, skip, keys.Fold(s[min(skip, len(s)):]))
	}
}

func withoutDigits(c rune) rune {
	if c >= '0' && c <= '9' {
		return 'n'
	}
	return c
}

// P5.2: all short texts with all skips.
func TestSortOfShortTexts(t *testing.T) {
	d := readDefinition()
	for s := range sample.Texts([]string{"0", "1", "7", "a", " ", "-", "é", "\u0301", "\xff"}, 4) {
		for skip := -1; skip < len(s)+2; skip++ {
			if got, want := keys.Sort(s, skip), d.sort(s, skip); got != want {
				t.Errorf("Sort(%+q, %d): %+q, want %+q", s, skip, got, want)
			}
		}
	}
}

// P5.2, P1: arbitrary texts.
func TestSortOfArbitraryTexts(t *testing.T) {
	d := readDefinition()
	q := sample.Sequence(62)
	for range 10000 {
		s, skip := someText(&q), q.Below(10)-2
		if q.Below(8) == 0 {
			skip = q.Integer()
		}
		expectSort(t, s, skip, d.sort(s, skip))
	}
}

// P1: large texts of one number and of many.
func TestSortOfLargeTexts(t *testing.T) {
	const size = 1 << 18
	expectSort(t, strings.Repeat("7", size), 0, "99"+strings.Repeat("7", size))
	expectSort(t, strings.Repeat("0", size)+"1", 1, "011")
	expectSort(t, strings.Repeat("1 ", size), 0, strings.TrimSpace(strings.Repeat("011 ", size)))
	expectSort(t, strings.Repeat("é", size), 2*size-2, "e")
}
