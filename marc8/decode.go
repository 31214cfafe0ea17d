package marc8

import (
	"strings"

	"pinakes/api"
)

// Decode returns in UTF-8 what s is in MARC-8.
func Decode(s string) (string, int, api.Errno) {
	return convert(s, decode)
}

func decode(s string) string {
	d := decoder{text: s, sets: map[byte]set{}, characters: newSet(characterRuns()...), marks: newSet(markRuns()...)}
	d.choose(ascii)
	for d.at < len(d.text) {
		d.step()
	}
	return d.result.String()
}

// decoder reads a text of MARC-8.
type decoder struct {
	text   string
	at     int
	result strings.Builder

	current set
	sets    map[byte]set // those that were needed so far, by their names

	characters, marks set
}

// step reads an escape, a control, or a letter with its marks.
func (d *decoder) step() {
	switch b := d.text[d.at]; {
	case b == escapeByte:
		d.escape()
	case b < firstByte:
		d.result.WriteByte(b)
		d.at++
	default:
		d.letter()
	}
}

// escape reads an escape.
func (d *decoder) escape() {
	rest := d.text[d.at:]
	if strings.HasPrefix(escapeStart, rest) {
		fail(d.at, api.ErrShort)
	}
	if !strings.HasPrefix(rest, escapeStart) || !d.choose(rest[len(escapeStart)]) {
		fail(d.at, api.ErrChar)
	}
	d.at += len(escapeStart) + 1
}

// choose makes the set of a name the current one, and says whether there is one.
func (d *decoder) choose(name byte) bool {
	runs := runsOf(name)
	if runs == nil {
		return false
	}
	if d.sets[name] == nil {
		d.sets[name] = newSet(runs...)
	}
	d.current = d.sets[name]
	return true
}

// letter reads marks and the letter behind them, which comes first in UTF-8.
func (d *decoder) letter() {
	first := d.at
	for d.at < len(d.text) && d.marks[d.text[d.at]] != 0 {
		d.at++
	}
	if d.at == len(d.text) {
		fail(first, api.ErrShort)
	}
	d.result.WriteRune(d.character(d.text[d.at]))
	for _, b := range []byte(d.text[first:d.at]) {
		d.result.WriteRune(d.marks[b])
	}
	d.at++
}

// character returns the character of a byte. Controls and escapes have none: they are not permitted behind marks.
func (d *decoder) character(b byte) rune {
	if c, found := d.current[b]; found {
		return c
	}
	if c, found := d.characters[b]; found {
		return c
	}
	fail(d.at, api.ErrChar)
	return 0
}
