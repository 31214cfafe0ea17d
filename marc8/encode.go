package marc8

import (
	"strings"
	"unicode/utf8"

	"pinakes/api"
)

// Encode returns in MARC-8 what s is in UTF-8.
func Encode(s string) (string, int, api.Errno) {
	return convert(s, encode)
}

func encode(s string) string {
	e := encoder{current: ascii, sets: map[byte]codes{}, characters: newCodes(characterRuns()...), marks: newCodes(markRuns()...)}
	for at := 0; at < len(s); {
		rest := s[at:]
		if !utf8.FullRuneInString(rest) {
			fail(at, api.ErrShort)
		}
		// A byte with which no sequence begins counts as U+FFFD here, which no set has.
		c, size := utf8.DecodeRuneInString(rest)
		if !e.write(c) {
			fail(at, api.ErrChar)
		}
		at += size
	}
	e.release()
	e.choose(ascii)
	return e.result.String()
}

// encoder writes a text of MARC-8.
type encoder struct {
	result strings.Builder
	held   byte // the byte of the last letter, which is written behind its marks; 0 if there is none

	current byte           // the name of the current set
	sets    map[byte]codes // those that were needed so far, by their names

	characters, marks codes
	composed          map[rune]parts // nil, as long as it was not needed
}

// write writes a character, and says whether that is possible.
func (e *encoder) write(c rune) bool {
	if c < firstByte {
		return e.control(c)
	}
	if e.mark(c) || e.letter(c) {
		return true
	}
	whole, found := e.whole(c)
	return found && e.letter(whole.letter) && e.mark(whole.mark)
}

// control writes a control, behind which there must be no mark.
func (e *encoder) control(c rune) bool {
	if c == escapeByte {
		return false
	}
	e.release()
	e.result.WriteByte(byte(c))
	return true
}

// mark writes a mark in front of its letter, if there is one.
func (e *encoder) mark(c rune) bool {
	b, found := e.marks[c]
	if !found || e.held == 0 {
		return false
	}
	e.result.WriteByte(b)
	return true
}

// letter holds back the byte of a letter, and says whether there is one.
func (e *encoder) letter(c rune) bool {
	e.release()
	if b, found := e.characters[c]; found {
		e.held = b
		return true
	}
	if b, found := e.named(e.current)[c]; found {
		e.held = b
		return true
	}
	for i := range len(setNames) {
		if b, found := e.named(setNames[i])[c]; found {
			e.choose(setNames[i])
			e.held = b
			return true
		}
	}
	return false
}

// release writes the byte that is held.
func (e *encoder) release() {
	if e.held != 0 {
		e.result.WriteByte(e.held)
		e.held = 0
	}
}

// choose makes the set of a name the current one.
func (e *encoder) choose(name byte) {
	if e.current != name {
		e.result.WriteString(escapeStart)
		e.result.WriteByte(name)
		e.current = name
	}
}

// named returns the set with a name.
func (e *encoder) named(name byte) codes {
	if e.sets[name] == nil {
		e.sets[name] = newCodes(runsOf(name)...)
	}
	return e.sets[name]
}

// whole returns the parts of a composed character.
func (e *encoder) whole(c rune) (parts, bool) {
	if e.composed == nil {
		e.composed = composedCharacters()
	}
	p, found := e.composed[c]
	return p, found
}
