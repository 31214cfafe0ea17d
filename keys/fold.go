package keys

import (
	"iter"
	"strings"
	"unicode/utf8"
)

// Fold returns the words of a text with single blanks between them.
func Fold(s string) string {
	return join(s, func(word string) string { return word })
}

// Words returns the words of a text: letters without marks, all small, and digits.
func Words(s string) []string {
	var list []string
	for word := range words(s) {
		list = append(list, word)
	}
	return list
}

// firstWord returns the first word of a text; the empty string, if it has none.
func firstWord(s string) string {
	for word := range words(s) {
		return word
	}
	return ""
}

// join returns the words of a text, each in a form, with single blanks between them.
func join(s string, form func(word string) string) string {
	var b strings.Builder
	for word := range words(s) {
		if b.Len() > 0 {
			b.WriteRune(blank)
		}
		b.WriteString(form(word))
	}
	return b.String()
}

// words visits the words of a text. Where no valid sequence begins, the range over the text yields U+FFFD for a single byte, which folds to a blank as the byte itself does.
func words(s string) iter.Seq[string] {
	return func(yield func(string) bool) {
		var f folder
		for _, c := range s {
			if !f.add(c) && !f.end(yield) {
				return
			}
		}
		f.end(yield)
	}
}

// folder gathers the folded characters of a word.
type folder struct {
	word    []byte
	letters map[rune]string // made when it is needed: most texts get along without
}

// add folds a character. It says whether the word goes on, which it does not at a blank.
func (f *folder) add(c rune) bool {
	switch letter := foldedAlone(c); letter {
	case nothing:
		return true
	case blank:
		letters := f.lettersFor(c)
		f.word = append(f.word, letters...)
		return letters != ""
	default:
		f.word = utf8.AppendRune(f.word, letter)
		return true
	}
}

// lettersFor returns what the table of letters has for a character, if anything.
func (f *folder) lettersFor(c rune) string {
	if c < utf8.RuneSelf {
		return ""
	}
	if f.letters == nil {
		f.letters = tableOfLetters()
	}
	return f.letters[c]
}

// end yields the word, unless it is empty, and begins the next one.
func (f *folder) end(yield func(string) bool) bool {
	if len(f.word) == 0 {
		return true
	}
	word := string(f.word)
	f.word = f.word[:0]
	return yield(word)
}
