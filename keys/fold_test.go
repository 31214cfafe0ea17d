package keys_test

import (
	"strings"
	"testing"
	"unicode/utf8"

	"pinakes/keys"
	"pinakes/sample"
)

// P5.1: the example of the chapter, and ordinary texts.
func TestFoldOfTexts(t *testing.T) {
	for s, want := range map[string]string{
		"  L'Été, à  Łódź! ":             "l ete a lodz",
		"Ordinary words":                 "ordinary words",
		"x":                              "x",
		"A-1, B2; c_3":                   "a 1 b2 c 3",
		"Οδυσσεύς, ΟΔΥΣΣΕΥΣ":             "οδυσσευσ οδυσσευσ",
		"ΕΛΛΗΝΙΚΉ ΓΛΏΣΣΑ":                "ελληνικη γλωσσα",
		"Ёлка и ЩЕПКА":                   "елка и щепка",
		"Straße, Æsir, Œuvre, Þing, ðat": "strasse aesir oeuvre thing dat",
		"İstanbul ırmak":                 "istanbul irmak",
		"Война\tи\nмир, и\u0306":         "война и мир и", // й is a letter of its own, but not with a mark
		"10½ £5":                         "10 5",
		"日本":                             "",
		"日a本b語":                          "a b",
	} {
		expectFold(t, s, want)
	}
}

// P5.1: the first and the last character of each line of the table of folded characters, and those beside them.
func TestLinesOfFoldedCharacters(t *testing.T) {
	for _, line := range []struct{ first, last, small rune }{
		{'a', 'z', 'a'}, {'0', '9', '0'}, {'A', 'Z', 'a'},
		{0x03B1, 0x03C1, 0x03B1}, {0x03C3, 0x03C9, 0x03C3}, {0x0391, 0x03A1, 0x03B1}, {0x03A3, 0x03A9, 0x03C3},
		{0x0430, 0x044F, 0x0430}, {0x0410, 0x042F, 0x0430},
	} {
		for c := line.first; c <= line.last; c++ {
			want := string(c - line.first + line.small)
			expectFold(t, string(c), want)
			expectFold(t, "x"+string(c)+"y"+string(c), "x"+want+"y"+want)
		}
	}
	for _, c := range []rune{'a' - 1, 'z' + 1, '0' - 1, '9' + 1, 'A' - 1, 'Z' + 1, 0x02FF, 0x0370, 0xFE1F, 0xFE30, 0x03A2, 0x0387, 0x03CF, 0x040F, 0x0450, 0x0452, 0x0402} {
		expectFold(t, string(c), "")
		expectFold(t, "x"+string(c)+"y"+string(c), "x y")
	}
	for _, c := range []rune{0x0300, 0x0301, 0x036E, 0x036F, 0xFE20, 0xFE21, 0xFE2E, 0xFE2F} {
		expectFold(t, string(c), "")
		expectFold(t, "x"+string(c)+"y"+string(c), "xy")
	}
	// The neighbours of the Greek letters are in the table of letters.
	expectFold(t, "\u0390\u03aa\u03ab\u03b0\u03ca", "ιιυυι")
}

// P5.1: U+03A2 is no letter, and the final sigma is the other one.
func TestSigma(t *testing.T) {
	expectFold(t, "\u03c2", "\u03c3")
	expectFold(t, "\u03a3\u03c2\u03c3", "\u03c3\u03c3\u03c3")
	expectFold(t, "\u03a2", "")
	expectFold(t, "\u03a1\u03a2\u03a3", "\u03c1 \u03c3")
}

// P5.1: every character of the table of letters, alone, in a word, and in words with others.
func TestTableOfLetters(t *testing.T) {
	d := readDefinition()
	if len(d.letters) != 207 {
		t.Fatalf("the table has %d letters, not 207", len(d.letters))
	}
	all, want := "", ""
	for c, folded := range d.letters {
		if utf8.RuneCountInString(c) != 1 {
			t.Fatalf("%+q is not one character", c)
		}
		expectFold(t, c, folded)
		expectFold(t, "x"+c+"1"+c+" "+c+"-"+c+"я", "x"+folded+"1"+folded+" "+folded+" "+folded+"я")
		all, want = all+c, want+folded
	}
	expectFold(t, all, want)
}

// P5.1: some of the table, by their numbers.
func TestKnownLetters(t *testing.T) {
	for s, want := range map[string]string{
		"\u00e0": "a", "\u0104": "a", "\u00f0": "d", "\u0111": "d", "\u0131": "i", "\u0130": "i", "\u00f8": "o", "\u01a0": "o", "\u01b0": "u",
		"\u0178": "y", "\u00c6": "ae", "\u0153": "oe", "\u00df": "ss", "\u00de": "th", "\u0386": "\u03b1", "\u0390": "\u03b9", "\u038f": "\u03c9",
		"\u0451": "\u0435", "\u0401": "\u0435",
		"\u1e9e": "", "\u017f": "", "\u01cd": "", "\u0138": "", "\u0149": "", "\u014b": "", "\u00aa": "", "\u00d7": "", "\u00f7": "", "\u1f71": "",
	} {
		expectFold(t, s, want)
	}
}

// P5.1: all characters of Unicode, each in a word between letters.
func TestAllCharacters(t *testing.T) {
	const block = 0x800
	d := readDefinition()
	for first := rune(0); first <= utf8.MaxRune; first += block {
		var b, want strings.Builder
		for c := first; c < first+block; c++ {
			if utf8.ValidRune(c) {
				b.WriteString("x" + string(c) + "y ")
				want.WriteString(d.fold("x"+string(c)+"y") + " ")
			}
		}
		if got := keys.Fold(b.String()); got != strings.TrimSpace(want.String()) {
			t.Errorf("Fold of the characters from %x on: %s, want %s", first, shown(got), shown(want.String()))
		}
	}
}

// P5.1: marks fold to nothing: they do not end words, nor begin them, and blanks beside them become one.
func TestMarks(t *testing.T) {
	for _, mark := range []string{"\u0301", "\u0300\u036f", "\ufe20", strings.Repeat("\u0301", 1000)} {
		for s, want := range map[string]string{"etude": "etude", "e": "e", "": "", "Łódź": "lodz", "ж2": "ж2"} {
			expectFold(t, mark+s, want)
			expectFold(t, s+mark, want)
			expectFold(t, mark+s+mark, want)
			expectFold(t, strings.Join(strings.Split(s, ""), mark), want)
			expectFold(t, s+" "+mark+" "+s, strings.TrimSpace(want+" "+want))
			expectFold(t, " "+mark+s+mark+" ", want)
		}
		expectFold(t, "a "+mark+"b", "a b")
		expectFold(t, "a"+mark+" b", "a b")
		expectFold(t, "a"+mark+"b", "ab")
		expectFold(t, " "+mark+" "+mark, "")
	}
}

// P5.1: a byte with which no valid sequence begins is a character of its own, and no letter.
func TestBytesThatAreNoCharacters(t *testing.T) {
	for n := 0x80; n < 0x100; n++ {
		b := string([]byte{byte(n)})
		expectFold(t, b, "")
		expectFold(t, "a"+b, "a")
		expectFold(t, b+"a", "a")
		expectFold(t, "a"+b+"b", "a b")
		expectFold(t, "a"+b+b+b+b+"b", "a b")
		expectFold(t, "a "+b+" b", "a b")
	}
	for s, want := range map[string]string{
		// Cut off: what is behind is read as itself.
		"\xffA\xc3": "a", "a\xc3b": "a b", "\xc3é": "e", "\xe2\x82é\xe2\x82": "e", "\xf0\x9f\x98a": "a", "\xcc": "", "a\xccb\xcc\x81": "a b",
		// Too long.
		"a\xc1\xa1b": "a b", "\xc1\x81": "", "\xe0\x81\xa1z": "z", "a\xe0\x83\xa9b": "a b", "\xf0\x80\x81\xa1": "", "\xf0\x80\x8c\x81": "",
		// Marks that are too long are none.
		"a\xe0\x8c\x81b": "a b",
		// Beyond the last character, and surrogates.
		"a\xf4\x90\x80\x80b": "a b", "\xf5\x80\x80\x80\xf8\x88\x80\x80\x80x": "x", "a\xed\xa0\x80b\xed\xbf\xbf": "a b",
		// Bytes in the middle of a character.
		"\xa9a": "a", "é\xa9a": "e a",
		// The character that stands for such a byte elsewhere.
		"a\ufffdb": "a b",
	} {
		expectFold(t, s, want)
	}
}

// P5.1: all texts of two bytes, and those of the bytes at which valid sequences begin and end to be valid.
func TestSequences(t *testing.T) {
	d := readDefinition()
	for first := range 256 {
		s := ""
		for second := range 256 {
			s += "x" + string([]byte{byte(first), byte(second)}) + "y "
		}
		expectFold(t, s, d.fold(s))
	}
	border := sample.Singles("a\x7f\x80\x81\x8f\x90\x9f\xa0\xbf\xc2\xcc\xcd\xdf\xe0\xed\xef\xf0\xf4\xf5")
	for s := range sample.Texts(border, 3) {
		if got, want := keys.Fold(s+"b"), d.fold(s+"b"); got != want {
			t.Errorf("Fold(%+q): %+q, want %+q", s+"b", got, want)
		}
	}
}

// P5.1: any number of blanks and signs is one blank, and none at the beginning and at the end.
func TestBlanks(t *testing.T) {
	for _, gap := range []string{" ", "  ", "   ", "\t", "\n", "\x00", "-", " - ", ", ", "...", "\u00a0", "日", "\xff ", " \u0301 ", strings.Repeat(" ", 10000)} {
		expectFold(t, "a"+gap+"b", "a b")
		expectFold(t, gap+"a"+gap+"b"+gap, "a b")
		expectFold(t, gap+"ab", "ab")
		expectFold(t, "ab"+gap, "ab")
		expectFold(t, "a"+gap+gap+"2"+gap+"é", "a 2 e")
	}
}

// P5.1: texts that fold to nothing have no words.
func TestTextsWithoutWords(t *testing.T) {
	for _, s := range []string{"", " ", "    ", ".", "-/:;", "\u0301", " \u0301 ", "\ufe20\ufe2f", "\x00", "\xff", "\xff\xfe \xc3", "日本", "\u03a2", "\u00a0", "😀", "\ufffd"} {
		expectFold(t, s, "")
		if list := keys.Words(s); len(list) != 0 {
			t.Errorf("Words(%+q): %+q", s, list)
		}
	}
}

// P5.1: all short texts of characters of all sorts.
func TestFoldOfShortTexts(t *testing.T) {
	d := readDefinition()
	for s := range sample.Texts([]string{"a", "B", " ", "-", "\u0301", "é", "ß", "ς", "\u03a2", "Я", "\xc3", "\xa9", "1"}, 4) {
		want := d.fold(s)
		if got := keys.Fold(s); got != want {
			t.Errorf("Fold(%+q): %+q, want %+q", s, got, want)
		}
		if got := strings.Join(keys.Words(s), " "); got != want {
			t.Errorf("Words(%+q): %+q, want those of %+q", s, got, want)
		}
	}
}

// P5.1, P1: arbitrary texts.
func TestFoldOfArbitraryTexts(t *testing.T) {
	d := readDefinition()
	q := sample.Sequence(60)
	for range 20000 {
		s := someText(&q)
		expectFold(t, s, d.fold(s))
	}
}

// P1: large texts of one word and of many words.
func TestFoldOfLargeTexts(t *testing.T) {
	const size = 1 << 20
	expectFold(t, strings.Repeat("É", size), strings.Repeat("e", size))
	expectFold(t, strings.Repeat("a ", size), strings.TrimSpace(strings.Repeat("a ", size)))
	expectFold(t, strings.Repeat("\xff", size), "")
	expectFold(t, strings.Repeat("\u0301", size)+"a", "a")
	expectFold(t, strings.Repeat(" -日", size), "")
}
