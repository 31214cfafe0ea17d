package marc8_test

import (
	"strings"
	"testing"

	"pinakes/api"
	"pinakes/marc8"
	"pinakes/sample"
)

func expectEncoded(t *testing.T, s string, want answer) {
	t.Helper()
	expect(t, "Encode", marc8.Encode, s, want)
}

// P2.2: the examples of the chapter, and ordinary texts.
func TestEncodeOfTexts(t *testing.T) {
	for s, want := range map[string]string{
		"":              "",
		"Cafe":          "Cafe",
		"Café":          "Caf\xe2e",
		"Cafe\u0301":    "Caf\xe2e",
		"α, a":          "\x1b(Sa, \x1b(Ba",
		"Łódź":          "\xa1\xe2od\xe2z",
		"Москва, 2 km":  "\x1b(NmOSKWA, 2 \x1b(Bkm",
		"\u0098a\u009c": "\x88a\x89",
	} {
		expectEncoded(t, s, answer{text: want})
	}
}

// P2.2: an escape stands in front of a character that the current set lacks, in front of its marks, and at the end.
func TestEscapesOfEncode(t *testing.T) {
	for s, want := range map[string]string{
		"α":              "\x1b(Sa\x1b(B",
		"я":              "\x1b(NQ\x1b(B",
		"aα":             "a\x1b(Sa\x1b(B",
		"αя":             "\x1b(Sa\x1b(NQ\x1b(B",
		"яα":             "\x1b(NQ\x1b(Sa\x1b(B",
		"яαa":            "\x1b(NQ\x1b(Sa\x1b(Ba",
		"я\u0301":        "\x1b(N\xe2Q\x1b(B",
		"aя\u0301\u0323": "a\x1b(N\xe2\xf2Q\x1b(B",
		"αé":             "\x1b(Sa\x1b(B\xe2e",
		"α\u0301é":       "\x1b(S\xe2a\x1b(B\xe2e",
		// What the current set has needs no escape: @ is in the Greek set, and not in the Cyrillic one.
		"α@ 1?":  "\x1b(Sa@ 1?\x1b(B",
		"я@ 1?":  "\x1b(NQ\x1b(B@ 1?",
		"я 1? я": "\x1b(NQ 1? Q\x1b(B",
		"α[":     "\x1b(Sa\x1b(B[",
		// Nor do the characters that all sets have, and controls.
		"αŁ€α":           "\x1b(Sa\xa1\xc8a\x1b(B",
		"α\u200d\u0301α": "\x1b(Sa\xe2\x8da\x1b(B",
		"α\nα\x00":       "\x1b(Sa\na\x00\x1b(B",
		"Ł":              "\xa1",
		"\x1f\x1e":       "\x1f\x1e",
		"й":              "\x1b(NJ\x1b(B",
		"ς":              "\x1b(Sy\x1b(B",
	} {
		expectEncoded(t, s, answer{text: want})
	}
}

// P2.2: composed characters count as their letters and marks; no others do.
func TestComposedCharacters(t *testing.T) {
	k := readTables()
	if len(k.composed) != 161 {
		t.Errorf("the table has %d composed characters", len(k.composed))
	}
	for c, whole := range k.composed {
		mark, _ := byteOf(k.marks, whole[1])
		letter := byte(whole[0])
		expectEncoded(t, string(c), answer{text: string([]byte{mark, letter})})
		expectEncoded(t, "α"+string(c)+"\u0323!", answer{text: "\x1b(Sa\x1b(B" + string([]byte{mark, 0xF2, letter}) + "!"})
		expectEncoded(t, string(whole[:])+"!", answer{text: string([]byte{mark, letter}) + "!"})
	}
	// Precomposed characters of Unicode that the table does not list: with other letters, with other marks, or with two.
	for _, c := range []string{"ḁ", "Ạ", "ế", "Ǎ", "Ǫ", "Ș", "ș", "Ț", "ț", "Ǻ", "ά", "ё", "ѐ", "ѓ", "\u212B", "\u2126", "Ǖ", "ǯ"} {
		expectEncoded(t, "a"+c, refused(1, api.ErrChar))
	}
}

// P2.2: every character of the first two blocks of Unicode, and some of the others.
func TestEncodeOfEveryCharacter(t *testing.T) {
	k := readTables()
	compare := func(c rune) {
		t.Helper()
		expectEncoded(t, string(c), k.encode(string(c)))
	}
	for c := rune(0); c < 0x2400; c++ {
		compare(c)
	}
	for c := rune(0xFB00); c <= 0x10000; c++ {
		compare(c)
	}
	for _, c := range []rune{0x266C, 0x266D, 0x266E, 0x266F, 0x2670, 0x65E5, 0xD7FF, 0xE000, 0x1F600, 0x10FFFE, 0x10FFFF} {
		compare(c)
	}
	for _, set := range k.sets {
		for _, c := range set {
			expectEncoded(t, string(c), k.encode(string(c)))
		}
	}
}

// P2.2: the errors with their offsets, the first one from left to right.
func TestErrorsOfEncode(t *testing.T) {
	for s, want := range map[string]answer{
		// Characters that belong to none.
		"日":           refused(0, api.ErrChar),
		"ab日\x1b":     refused(2, api.ErrChar),
		"é日":          refused(2, api.ErrChar),
		"a\x1b":       refused(1, api.ErrChar),
		"\x1b(Ba":     refused(0, api.ErrChar),
		"a\x7f":       refused(1, api.ErrChar),
		"α\u0080":     refused(2, api.ErrChar),
		"a\u0301ά":    refused(3, api.ErrChar),
		"a\uFFFDb":    refused(1, api.ErrChar),
		"😀":           refused(0, api.ErrChar),
		"a\u0301\x1b": refused(3, api.ErrChar),
		// Marks at the beginning, and behind a control.
		"\u0301":            refused(0, api.ErrChar),
		"\u0301a":           refused(0, api.ErrChar),
		"\n\u0301a":         refused(1, api.ErrChar),
		"a\n\u0301":         refused(2, api.ErrChar),
		"α\x00\u0301\u0301": refused(3, api.ErrChar),
		"é\x1f\uFE20":       refused(3, api.ErrChar),
		// Bytes with which no valid sequence begins.
		"\x80":             refused(0, api.ErrChar),
		"a\xbf":            refused(1, api.ErrChar),
		"é\xff":            refused(2, api.ErrChar),
		"a\xc3a":           refused(1, api.ErrChar),
		"a\xc3\xc3\xa9":    refused(1, api.ErrChar),
		"\xe2\x82a":        refused(0, api.ErrChar),
		"\xf0\x9f\x98a":    refused(0, api.ErrChar),
		"\xc0\x80":         refused(0, api.ErrChar),
		"\xc1":             refused(0, api.ErrChar),
		"\xe0\x80":         refused(0, api.ErrChar),
		"\xe0\x9f\xbf":     refused(0, api.ErrChar),
		"\xed\xa0":         refused(0, api.ErrChar),
		"a\xed\xa0\x80":    refused(1, api.ErrChar),
		"\xf0\x8f":         refused(0, api.ErrChar),
		"\xf4\x90":         refused(0, api.ErrChar),
		"\xf5":             refused(0, api.ErrChar),
		"a\u0301\x81\xc3":  refused(3, api.ErrChar),
		"\xf8\x88\x80\x80": refused(0, api.ErrChar),
		// Sequences that are cut off.
		"\xc3":         refused(0, api.ErrShort),
		"a\xc3":        refused(1, api.ErrShort),
		"é\xe2":        refused(2, api.ErrShort),
		"é\xe2\x82":    refused(2, api.ErrShort),
		"\xe0\xa0":     refused(0, api.ErrShort),
		"\xed\x9f":     refused(0, api.ErrShort),
		"α\xf0":        refused(2, api.ErrShort),
		"\xf0\x90":     refused(0, api.ErrShort),
		"\xf0\x9f\x98": refused(0, api.ErrShort),
		"\xf4\x8f\xbf": refused(0, api.ErrShort),
		"\n\xcc":       refused(1, api.ErrShort),
		"\n\u0301\xc3": refused(1, api.ErrChar),
		"日\xc3":        refused(0, api.ErrChar),
		"\xc3\xc3":     refused(0, api.ErrChar),
	} {
		expectEncoded(t, s, want)
	}
}

// P2.2: every text of at most four pieces, and longer ones, as the chapter defines it.
func TestEncodeAsDefined(t *testing.T) {
	k := readTables()
	compare := func(s string) {
		t.Helper()
		expectEncoded(t, s, k.encode(s))
	}
	for s := range sample.Texts([]string{"a", "@", "é", "α", "я", "Ł", "\u0301", "\n", "日", "\xc3"}, 4) {
		compare(s)
	}
	q := sample.Sequence(22)
	everything := strings.Split("a,Z, ,1,?,@,{,~,é,ű,Ç,й,α,Ω,ς,ю,Ъ,ъ,Ч,Ł,ƀ,ß,€,\u200d,\u0301,\u0323,\uFE22,\u0313,\n,\x1f,\x00", ",")
	for range 4000 {
		s := q.Join(everything, q.Below(20))
		compare(s)
		// A text that is cut off anywhere, or has a byte that does not fit.
		at := q.Below(len(s) + 1)
		compare(s[:at])
		compare(s[:at] + string([]byte{byte(q.Next())}) + s[at:])
	}
}

// P2.2: all short sequences of bytes, whether they are valid, invalid or cut off.
func TestEncodeOfBytes(t *testing.T) {
	k := readTables()
	starts := hexBytes("41 80 8F 90 9F A0 A9 BF C1 C3 CE DF E0 E2 ED EF F0 F1 F4 F5 FF")
	for s := range sample.Texts(starts, 2) {
		expectEncoded(t, s, k.encode(s))
		expectEncoded(t, "é"+s, k.encode("é"+s))
	}
	for rest := range sample.Texts(hexBytes("80 8F 90 9F A0 BF 41"), 3) {
		for _, first := range hexBytes("C2 E0 E1 ED EF F0 F3 F4") {
			expectEncoded(t, first+rest, k.encode(first+rest))
		}
	}
}
