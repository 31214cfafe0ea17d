package marc8

import "iter"

// Bytes with a meaning of their own.
const (
	escapeByte = 0x1B
	firstByte  = 0x20 // of the sets; those below are controls
	deleteByte = 0x7F
)

// escapeStart is what all escapes begin with.
const escapeStart = "\x1b("

// The sets are named by the last bytes of their escapes.
const (
	ascii    = 'B'
	greek    = 'S'
	cyrillic = 'N'
)

// setNames lists the sets in the order in which Encode looks for a character.
const setNames = "BSN"

// The characters of the sets, in the order of their bytes.
const (
	asciiSigns = " !\"#$%&'()*+,-./0123456789:;<=>?"
	asciiRest  = "@ABCDEFGHIJKLMNOPQRSTUVWXYZ[\\]^_`abcdefghijklmnopqrstuvwxyz{|}~"

	greekCapitals = "ΑΒΓΔΕΖΗΘΙΚΛΜΝΞΟΠΡΣΤΥΦΧΨΩ"
	greekSmall    = "αβγδεζηθικλμνξοπρστυφχψω"
	greekFinal    = "ς"

	cyrillicSmall    = "юабцдефгхийклмнопярстужвьызшэщчъ"
	cyrillicCapitals = "ЮАБЦДЕФГХИЙКЛМНОПЯРСТУЖВЬЫЗШЭЩЧ"
)

// run is a row of characters whose bytes follow each other.
type run struct {
	first      byte
	characters string
}

// all yields the bytes of runs and their characters.
func all(runs []run) iter.Seq2[byte, rune] {
	return func(yield func(byte, rune) bool) {
		for _, r := range runs {
			b := r.first
			for _, c := range r.characters {
				if !yield(b, c) {
					return
				}
				b++
			}
		}
	}
}

// set has the characters of bytes.
type set map[byte]rune

// newSet makes the set of the characters of runs.
func newSet(runs ...run) set {
	s := make(set, room(runs))
	for b, c := range all(runs) {
		s[b] = c
	}
	return s
}

// codes has the bytes of characters: it is a set turned round.
type codes map[rune]byte

// newCodes makes the codes of the characters of runs.
func newCodes(runs ...run) codes {
	turned := make(codes, room(runs))
	for b, c := range all(runs) {
		turned[c] = b
	}
	return turned
}

// room returns a number of elements that suffices for the characters of runs: growing costs more than filling.
func room(runs []run) int {
	n := 0
	for _, r := range runs {
		n += len(r.characters)
	}
	return n
}

// runsOf returns the runs of the set with a name; of other bytes there are none.
func runsOf(name byte) []run {
	signs := run{firstByte, asciiSigns}
	switch name {
	case ascii:
		return []run{signs, {0x40, asciiRest}}
	case greek:
		return []run{signs, {0x40, "@"}, {0x41, greekCapitals}, {0x61, greekSmall}, {0x79, greekFinal}}
	case cyrillic:
		return []run{signs, {0x40, cyrillicSmall}, {0x60, cyrillicCapitals}}
	}
	return nil
}

// characterRuns returns the characters that all sets have.
func characterRuns() []run {
	return []run{
		{0x88, "\u0098\u009C"},
		{0x8D, "\u200D\u200C"},
		{0xA1, "\u0141\u00D8\u0110\u00DE\u00C6\u0152\u02B9\u00B7\u266D\u00AE\u00B1\u01A0\u01AF\u02BC"},
		{0xB0, "\u02BB\u0142\u00F8\u0111\u00FE\u00E6\u0153\u02BA\u0131\u00A3\u00F0"},
		{0xBC, "\u01A1\u01B0"},
		{0xC0, "\u00B0\u2113\u2117\u00A9\u266F\u00BF\u00A1\u00DF\u20AC"},
	}
}

// markRuns returns the marks.
func markRuns() []run {
	return []run{
		{0xE0, "\u0309\u0300\u0301\u0302\u0303\u0304\u0306\u0307\u0308\u030C\u030A\uFE20\uFE21\u0315\u030B\u0310"},
		{0xF0, "\u0327\u0328\u0323\u0324\u0325\u0333\u0332\u0326\u031C\u032E\uFE22\uFE23"},
		{0xFE, "\u0313"},
	}
}
