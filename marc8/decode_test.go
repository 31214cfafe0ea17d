package marc8_test

import (
	"strings"
	"testing"

	"pinakes/api"
	"pinakes/marc8"
	"pinakes/sample"
)

func expectDecoded(t *testing.T, s string, want answer) {
	t.Helper()
	expect(t, "Decode", marc8.Decode, s, want)
}

// P2.1: the examples of the chapter, and ordinary texts.
func TestDecodeOfTexts(t *testing.T) {
	for s, want := range map[string]string{
		"":                              "",
		"Cafe":                          "Cafe",
		"Caf\xe2e":                      "Cafe\u0301",
		"\x1b(Sab\x1b(Bx":               "αβx",
		"\x1b(Sab":                      "αβ",
		"\xe2\xa1o\xe8d":                "Ł\u0301od\u0308",
		"\x1b(NmOSKWA, 2\x1b(B km":      "Москва, 2 km",
		"\x1b(N@\x1b(S@\x1b(B@":         "ю@@",
		"\x1b(S\xe2a\xb9\x1b(N\xe9\x51": "α\u0301£я\u030c",
	} {
		expectDecoded(t, s, answer{text: want})
	}
}

// P2.1: every byte in every set, in front of other bytes, behind them, and behind a mark.
func TestDecodeOfEveryByte(t *testing.T) {
	k := readTables()
	for name, set := range k.sets {
		start := "\x1b(" + string(rune(name))
		for n := range 256 {
			b := byte(n)
			c := max(set[b], k.characters[b])
			switch {
			case c != 0:
				expectDecoded(t, start+string([]byte{b}), answer{text: string(c)})
				expectDecoded(t, start+string([]byte{0xE2, b, '!'}), answer{text: string(c) + "\u0301!"})
			case isControl(rune(b)):
				expectDecoded(t, start+string([]byte{b, '!'}), answer{text: string(rune(b)) + "!"})
				expectDecoded(t, start+string([]byte{0xE2, b, '!'}), refused(4, api.ErrChar))
			case k.marks[b] != 0:
				expectDecoded(t, start+string([]byte{b, '!'}), answer{text: "!" + string(k.marks[b])})
				expectDecoded(t, start+string([]byte{b}), refused(3, api.ErrShort))
			default:
				expectDecoded(t, start+string([]byte{b, '!', '!'}), refused(3, api.ErrChar))
				expectDecoded(t, start+string([]byte{0xE2, b, '!'}), refused(4, api.ErrChar))
			}
		}
	}
}

// P2.1: of all bytes, only 28 goes on with an escape, and only 42, 53 and 4E end one.
func TestBytesOfEscapes(t *testing.T) {
	k := readTables()
	for n := range 256 {
		b := byte(n)
		if b != 0x28 {
			expectDecoded(t, string([]byte{'a', 0x1B, b}), refused(1, api.ErrChar))
			expectDecoded(t, string([]byte{'a', 0x1B, b, 0x42}), refused(1, api.ErrChar))
		}
		if set := k.sets[b]; set != nil {
			expectDecoded(t, string([]byte{'a', 0x1B, 0x28, b, 0x61}), answer{text: "a" + string(set[0x61])})
		} else {
			expectDecoded(t, string([]byte{'a', 0x1B, 0x28, b, 0x61}), refused(1, api.ErrChar))
		}
	}
}

// P2.1: how many characters each set has.
func TestSizesOfSets(t *testing.T) {
	k := readTables()
	for name, size := range map[byte]int{'B': 95, 'S': 33 + 24 + 24 + 1, 'N': 32 + 32 + 31} {
		decoded := 0
		for b := byte(0x20); b < 0x80; b++ {
			if _, _, kind := marc8.Decode("\x1b(" + string(rune(name)) + string([]byte{b})); kind == api.OK {
				decoded++
			}
		}
		if decoded != size || len(k.sets[name]) != size {
			t.Errorf("set %c has %d characters, the tables %d, want %d", name, decoded, len(k.sets[name]), size)
		}
	}
}

// P2.1: any number of marks stand behind their letter, in their order; controls end nothing, and keep the set.
func TestDecodeOfMarksAndControls(t *testing.T) {
	for s, want := range map[string]string{
		"\xf2\xe2a":             "a\u0323\u0301",
		"\xe2\xf2a":             "a\u0301\u0323",
		"\xe2\xe2\xe2 \xe2\xc8": " \u0301\u0301\u0301€\u0301",
		"\x1b(Sa\x1ea\x1f\x00a": "α\x1eα\x1f\x00α",
		"\x1b(S\x1b(S\x1b(Sa":   "α",
		"\x00\x1a\x1c\x1f\x8e":  "\x00\x1a\x1c\x1f\u200c",
	} {
		expectDecoded(t, s, answer{text: want})
	}
	many := strings.Repeat("\xe2\xf2", 5000)
	expectDecoded(t, many+"a\n", answer{text: "a" + strings.Repeat("\u0301\u0323", 5000) + "\n"})
}

// P2.1: the errors with their offsets, the first one from left to right.
func TestErrorsOfDecode(t *testing.T) {
	for s, want := range map[string]answer{
		// Bytes that are not permitted.
		"ab\x7f":                refused(2, api.ErrChar),
		"ab\xffc\xff":           refused(2, api.ErrChar),
		"\x80":                  refused(0, api.ErrChar),
		"\x1b(Sa\x59":           refused(4, api.ErrChar),
		"\x1b(S\x60":            refused(3, api.ErrChar),
		"\x1b(N\x7f":            refused(3, api.ErrChar),
		"\x1b(Sa\x1b(B\x59\xaf": refused(8, api.ErrChar),
		"a\xe2\xff":             refused(2, api.ErrChar),
		// 1B that begins no escape.
		"a\x1bB":        refused(1, api.ErrChar),
		"a\x1b\x1b(B":   refused(1, api.ErrChar),
		"a\x1b)Bc":      refused(1, api.ErrChar),
		"a\x1b(A":       refused(1, api.ErrChar),
		"a\x1b(b":       refused(1, api.ErrChar),
		"a\x1b(\x1b":    refused(1, api.ErrChar),
		"a\x1b(\xe2":    refused(1, api.ErrChar),
		"a\x1b(\x00":    refused(1, api.ErrChar),
		"\x1b((B":       refused(0, api.ErrChar),
		"\x1b(\xff\x1b": refused(0, api.ErrChar),
		// 1B and controls behind a mark.
		"\xe2\x1b(Ba":      refused(1, api.ErrChar),
		"\xe2\xe2\x1b(":    refused(2, api.ErrChar),
		"\xe2\x1b":         refused(1, api.ErrChar),
		"a\xe2\x1b\x1b":    refused(2, api.ErrChar),
		"\xe2\xe8\n":       refused(2, api.ErrChar),
		"\xe2\x00a":        refused(1, api.ErrChar),
		"a\xe2\x1f\xff":    refused(2, api.ErrChar),
		"a\x1b(S\xe2\x1ea": refused(5, api.ErrChar),
		// Escapes that are cut off.
		"\x1b":            refused(0, api.ErrShort),
		"\x1b(":           refused(0, api.ErrShort),
		"ab\x1b":          refused(2, api.ErrShort),
		"ab\x1b(":         refused(2, api.ErrShort),
		"a\x1b(Sa\x1b(":   refused(5, api.ErrShort),
		"\n\x1b":          refused(1, api.ErrShort),
		"\xff\x1b(":       refused(0, api.ErrChar),
		"a\x1bB\x1b(":     refused(1, api.ErrChar),
		"\x1b(S\x59\x1b(": refused(3, api.ErrChar),
		// Marks at the end.
		"\xe2":             refused(0, api.ErrShort),
		"a\xe2":            refused(1, api.ErrShort),
		"a\xe2\xf2\xe2":    refused(1, api.ErrShort),
		"\xe2a\xf2\xe2":    refused(2, api.ErrShort),
		"a\n\xe2":          refused(2, api.ErrShort),
		"\x1b(Sa\xe2\xe3":  refused(4, api.ErrShort),
		"a\xff\xe2":        refused(1, api.ErrChar),
		"\xe2\n\xe2":       refused(1, api.ErrChar),
		"\xe2\xf2\xff\xe2": refused(2, api.ErrChar),
	} {
		expectDecoded(t, s, want)
	}
}

// P2.1: every text of at most five pieces, and longer ones, as the chapter defines it.
func TestDecodeAsDefined(t *testing.T) {
	k := readTables()
	compare := func(s string) {
		t.Helper()
		expectDecoded(t, s, k.decode(s))
	}
	for s := range sample.Texts(hexBytes("1B 28 42 53 4E 59 E2 A1 0A 7F"), 5) {
		compare(s)
	}
	for s := range sample.Texts([]string{"\x1b(B", "\x1b(S", "\x1b(N", "a", "[", "\xf2", "\xfe", "\x1e", "\x1b"}, 4) {
		compare(s)
	}
	q := sample.Sequence(2)
	everything := append([]string{"\x1b(B", "\x1b(S", "\x1b(N", "\x1b"}, hexBytes("00 0A 1F 20 3F 40 41 5F 61 78 79 7A 7E E0 E2 E9 FB FE A1 BC C8 8D")...)
	rare := append([]string{"\xfc", "\xc9", "\x7f", "\x8a"}, everything...)
	for range 20000 {
		compare(q.Join(everything, q.Below(12)))
		compare(q.Join(rare, q.Below(40)))
	}
}
