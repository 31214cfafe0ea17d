package marc8_test

import (
	"strings"
	"testing"
	"unsafe"

	"pinakes/api"
	"pinakes/marc8"
	"pinakes/sample"
)

// spread returns s with its composed characters replaced by their letters and marks.
func (k tables) spread(s string) string {
	var b strings.Builder
	for _, c := range s {
		if whole, found := k.composed[c]; found {
			b.WriteString(string(whole[:]))
		} else {
			b.WriteRune(c)
		}
	}
	return b.String()
}

// P2.3: if Encode(s) is t, Decode(t) is s, with the parts of composed characters.
func TestDecodeOfEncode(t *testing.T) {
	k := readTables()
	q := sample.Sequence(23)
	pieces := strings.Split("a,Z, ,@,é,Ç,İ,й,α,ς,ю,Ł,€,\u0301,\u0323,\uFE22,\n,\x1f", ",")
	encoded := 0
	for range 20000 {
		s := q.Join(pieces, q.Below(16))
		coded, _, kind := marc8.Encode(s)
		if kind != api.OK {
			continue
		}
		encoded++
		expectDecoded(t, coded, answer{text: k.spread(s)})
	}
	if encoded < 1000 {
		t.Errorf("only %d texts could be encoded", encoded)
	}
}

// P2.3: Encode(Decode(t)) can be decoded to the same text as t.
func TestDecodeOfEncodeOfDecode(t *testing.T) {
	q := sample.Sequence(24)
	pieces := append([]string{"\x1b(B", "\x1b(S", "\x1b(N"}, hexBytes("00 0A 1F 20 3F 40 41 58 61 75 78 79 E0 E2 FB FE A1 BC C8 8D 88")...)
	decoded := 0
	for range 20000 {
		s := q.Join(pieces, q.Below(16))
		text, _, kind := marc8.Decode(s)
		if kind != api.OK {
			continue
		}
		decoded++
		coded, _, kind := marc8.Encode(text)
		if kind != api.OK {
			t.Fatalf("Encode of %q, which is Decode of %q: error %d", text, s, kind)
		}
		expectDecoded(t, coded, answer{text: text})
	}
	if decoded < 1000 {
		t.Errorf("only %d texts could be decoded", decoded)
	}
}

// P2.3: texts of ASCII without the bytes 1B and 7F are not changed; with one of them, there is an error.
func TestTextsOfASCII(t *testing.T) {
	var b strings.Builder
	for c := range byte(0x7F) {
		if c != 0x1B {
			b.WriteByte(c)
		}
	}
	plain := b.String()
	for _, s := range []string{plain, plain + plain, "", "a", "\x00"} {
		expectDecoded(t, s, answer{text: s})
		expectEncoded(t, s, answer{text: s})
		expectDecoded(t, s+"\x7f", refused(len(s), api.ErrChar))
		expectEncoded(t, s+"\x7f"+s, refused(len(s), api.ErrChar))
		expectDecoded(t, s+"\x1b", refused(len(s), api.ErrShort))
		expectEncoded(t, s+"\x1b", refused(len(s), api.ErrChar))
		// The same beside what is no ASCII.
		expectDecoded(t, s+"\xa1", answer{text: s + "Ł"})
		expectEncoded(t, "Ł"+s, answer{text: "\xa1" + s})
	}
}

// P1: arbitrary bytes are converted or refused, and the results with an error are zero values (R2).
func TestArbitraryBytes(t *testing.T) {
	q := sample.Sequence(25)
	for range 20000 {
		b := make([]byte, q.Below(24))
		for i := range b {
			b[i] = byte(q.Next())
		}
		expectTotal(t, "Decode", marc8.Decode, string(b))
		expectTotal(t, "Encode", marc8.Encode, string(b))
	}
}

func expectTotal(t *testing.T, call string, conversion func(string) (string, int, api.Errno), s string) {
	t.Helper()
	got := answerOf(conversion, s)
	switch got.kind {
	case api.OK:
		if got.at != 0 {
			t.Errorf("%s of %q: number %d without an error", call, s, got.at)
		}
	case api.ErrShort, api.ErrChar:
		if got.text != "" || got.at < 0 || got.at >= len(s) {
			t.Errorf("%s of %q: %q at %d, error %d", call, s, got.text, got.at, got.kind)
		}
	default:
		t.Errorf("%s of %q: error %d", call, s, got.kind)
	}
}

// P1: large texts, among them those with many escapes and with many marks.
func TestLargeTexts(t *testing.T) {
	const size = 1 << 18
	expectDecoded(t, strings.Repeat("\x1b(Sa\x1b(NQ", size), answer{text: strings.Repeat("αя", size)})
	expectEncoded(t, strings.Repeat("αя", size), answer{text: strings.Repeat("\x1b(Sa\x1b(NQ", size) + "\x1b(B"})
	expectDecoded(t, strings.Repeat("\xe2", size), refused(0, api.ErrShort))
	expectDecoded(t, strings.Repeat("\xe2", size)+"a", answer{text: "a" + strings.Repeat("\u0301", size)})
	expectEncoded(t, "a"+strings.Repeat("\u0301", size), answer{text: strings.Repeat("\xe2", size) + "a"})
	expectEncoded(t, strings.Repeat("é", size)+"\xc3", refused(2*size, api.ErrShort))
}

// R3: results do not share memory with arguments. R4: the same call returns the same result.
func TestResultsAreNew(t *testing.T) {
	for _, s := range []string{"plain", "Caf\xe2e", "Café"} {
		for name, conversion := range map[string]func(string) (string, int, api.Errno){"Decode": marc8.Decode, "Encode": marc8.Encode} {
			first := answerOf(conversion, s)
			if first != answerOf(conversion, s) {
				t.Errorf("%s of %q differs from call to call", name, s)
			}
			if first.text != "" && unsafe.StringData(first.text) == unsafe.StringData(s) {
				t.Errorf("%s of %q returns its argument", name, s)
			}
		}
	}
}
