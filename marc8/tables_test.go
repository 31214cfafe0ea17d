package marc8_test

import (
	"strings"
	"unicode"
	"unicode/utf8"

	"pinakes/api"
	"pinakes/sample"
)

// The tables of the chapter, in its own words.
const (
	characterTable = `
	88 U+0098, 89 U+009C, 8D U+200D, 8E U+200C, A1 U+0141, A2 U+00D8, A3 U+0110, A4 U+00DE,
	A5 U+00C6, A6 U+0152, A7 U+02B9, A8 U+00B7, A9 U+266D, AA U+00AE, AB U+00B1, AC U+01A0,
	AD U+01AF, AE U+02BC, B0 U+02BB, B1 U+0142, B2 U+00F8, B3 U+0111, B4 U+00FE, B5 U+00E6,
	B6 U+0153, B7 U+02BA, B8 U+0131, B9 U+00A3, BA U+00F0, BC U+01A1, BD U+01B0, C0 U+00B0,
	C1 U+2113, C2 U+2117, C3 U+00A9, C4 U+266F, C5 U+00BF, C6 U+00A1, C7 U+00DF, C8 U+20AC`
	markTable = `
	E0 U+0309, E1 U+0300, E2 U+0301, E3 U+0302, E4 U+0303, E5 U+0304, E6 U+0306, E7 U+0307,
	E8 U+0308, E9 U+030C, EA U+030A, EB U+FE20, EC U+FE21, ED U+0315, EE U+030B, EF U+0310,
	F0 U+0327, F1 U+0328, F2 U+0323, F3 U+0324, F4 U+0325, F5 U+0333, F6 U+0332, F7 U+0326,
	F8 U+031C, F9 U+032E, FA U+FE22, FB U+FE23, FE U+0313`
	composedTable = `
	U+0300 À È Ì Ò Ù à è ì ò ù
	U+0301 Á É Í Ó Ú Ý á é í ó ú ý Ć ć Ĺ ĺ Ń ń Ŕ ŕ Ś ś Ź ź
	U+0302 Â Ê Î Ô Û â ê î ô û Ĉ ĉ Ĝ ĝ Ĥ ĥ Ĵ ĵ Ŝ ŝ Ŵ ŵ Ŷ ŷ
	U+0303 Ã Ñ Õ ã ñ õ Ĩ ĩ Ũ ũ
	U+0308 Ä Ë Ï Ö Ü ä ë ï ö ü ÿ Ÿ
	U+030A Å å Ů ů
	U+0327 Ç ç Ģ ģ Ķ ķ Ļ ļ Ņ ņ Ŗ ŗ Ş ş Ţ ţ
	U+0304 Ā ā Ē ē Ī ī Ō ō Ū ū
	U+0306 Ă ă Ĕ ĕ Ğ ğ Ĭ ĭ Ŏ ŏ Ŭ ŭ
	U+0328 Ą ą Ę ę Į į Ų ų
	U+0307 Ċ ċ Ė ė Ġ ġ İ Ż ż
	U+030C Č č Ď ď Ě ě Ľ ľ Ň ň Ř ř Š š Ť ť Ž ž
	U+030B Ő ő Ű ű`
	greekTable    = "Α Β Γ Δ Ε Ζ Η Θ Ι Κ Λ Μ Ν Ξ Ο Π Ρ Σ Τ Υ Φ Χ Ψ Ω"
	smallGreek    = "α β γ δ ε ζ η θ ι κ λ μ ν ξ ο π ρ σ τ υ φ χ ψ ω"
	cyrillicTable = "ю а б ц д е ф г х и й к л м н о п я р с т у ж в ь ы з ш э щ ч ъ"
)

// tables are the tables in a form in which they can be looked up.
type tables struct {
	sets              map[byte]map[byte]rune // by the last bytes of their escapes
	characters, marks map[byte]rune
	composed          map[rune][2]rune
}

func readTables() tables {
	return tables{
		sets:       map[byte]map[byte]rune{0x42: asciiSet(), 0x53: greekSet(), 0x4E: cyrillicSet()},
		characters: readBytes(characterTable),
		marks:      readBytes(markTable),
		composed:   readComposed(),
	}
}

// readBytes reads lines like "88 U+0098, 89 U+009C".
func readBytes(table string) map[byte]rune {
	found := map[byte]rune{}
	for entry := range strings.SplitSeq(table, ",") {
		words := strings.Fields(entry)
		found[byte(hex(words[0]))] = hex(strings.TrimPrefix(words[1], "U+"))
	}
	return found
}

func asciiSet() map[byte]rune { return likeASCII(0x20, 0x7E) }

func likeASCII(first, last byte) map[byte]rune {
	set := map[byte]rune{}
	for b := first; b <= last; b++ {
		set[b] = rune(b)
	}
	return set
}

func greekSet() map[byte]rune {
	set := likeASCII(0x20, 0x40)
	for i, letter := range strings.Fields(greekTable) {
		set[byte(0x41+i)], _ = utf8.DecodeRuneInString(letter)
	}
	for i, letter := range strings.Fields(smallGreek) {
		set[byte(0x61+i)], _ = utf8.DecodeRuneInString(letter)
	}
	set[0x79] = 'ς'
	return set
}

func cyrillicSet() map[byte]rune {
	set := likeASCII(0x20, 0x3F)
	for i, letter := range strings.Fields(cyrillicTable) {
		small, _ := utf8.DecodeRuneInString(letter)
		set[byte(0x40+i)] = small
		if small != 'ъ' {
			set[byte(0x60+i)] = unicode.ToUpper(small)
		}
	}
	return set
}

// bare has the letters that the composed characters are without their marks, letter by letter of ASCII.
const bare = `A ÀÁÂÃÄÅĀĂĄ a àáâãäåāăą C ÇĆĈĊČ c çćĉċč D Ď d ď E ÈÉÊËĒĔĖĘĚ e èéêëēĕėęě G ĜĞĠĢ g ĝğġģ H Ĥ h ĥ
	I ÌÍÎÏĨĪĬĮİ i ìíîïĩīĭį J Ĵ j ĵ K Ķ k ķ L ĹĻĽ l ĺļľ N ÑŃŅŇ n ñńņň O ÒÓÔÕÖŌŎŐ o òóôõöōŏő R ŔŖŘ r ŕŗř
	S ŚŜŞŠ s śŝşš T ŢŤ t ţť U ÙÚÛÜŨŪŬŮŰŲ u ùúûüũūŭůűų W Ŵ w ŵ Y ÝŶŸ y ýŷÿ Z ŹŻŽ z źżž`

func readComposed() map[rune][2]rune {
	letters := map[rune]rune{}
	words := strings.Fields(bare)
	for i := 0; i < len(words); i += 2 {
		for _, c := range words[i+1] {
			letters[c] = rune(words[i][0])
		}
	}
	composed := map[rune][2]rune{}
	for line := range strings.SplitSeq(strings.TrimSpace(composedTable), "\n") {
		words := strings.Fields(line)
		mark := hex(strings.TrimPrefix(words[0], "U+"))
		for _, word := range words[1:] {
			c, _ := utf8.DecodeRuneInString(word)
			composed[c] = [2]rune{letters[c], mark}
		}
	}
	return composed
}

// isControl says whether a character is a byte from 00 to 1F other than 1B.
func isControl(c rune) bool { return c < 0x20 && c != 0x1B }

// decode is P2.1, with the rest of the text in hand at every step.
func (k tables) decode(s string) answer {
	set := k.sets[0x42]
	text, marks := "", ""
	for at := 0; at < len(s); at++ {
		b := s[at]
		switch {
		case k.marks[b] != 0:
			if k.onlyMarks(s[at:]) {
				return refused(at, api.ErrShort)
			}
			marks += string(k.marks[b])
		case set[b] != 0 || k.characters[b] != 0:
			text += string(max(set[b], k.characters[b])) + marks
			marks = ""
		case marks != "":
			return refused(at, api.ErrChar)
		case isControl(rune(b)):
			text += string(rune(b))
		case s[at:] == "\x1b" || s[at:] == "\x1b(":
			return refused(at, api.ErrShort)
		case b == 0x1B && s[at+1] == '(' && k.sets[s[at+2]] != nil:
			set = k.sets[s[at+2]]
			at += 2
		default:
			return refused(at, api.ErrChar)
		}
	}
	return answer{text: text}
}

func (k tables) onlyMarks(s string) bool {
	for i := range len(s) {
		if k.marks[s[i]] == 0 {
			return false
		}
	}
	return true
}

// byteOf returns the byte of a character of a set.
func byteOf(set map[byte]rune, c rune) (byte, bool) {
	for b, x := range set {
		if x == c {
			return b, true
		}
	}
	return 0, false
}

// canGoOn says whether some bytes behind rest make it one valid sequence.
func canGoOn(rest string) bool {
	found := false
	for more := range sample.Texts(hexBytes("80 90 A0 BF"), 3) {
		found = found || more != "" && utf8.ValidString(rest+more) && utf8.RuneCountInString(rest+more) == 1
	}
	return found
}

// split reads s as characters, the composed ones in parts, with their places, up to the end or to what is no UTF-8.
func (k tables) split(s string) (characters []rune, places []int, end answer) {
	for at := 0; at < len(s); {
		c, size := utf8.DecodeRuneInString(s[at:])
		if c == utf8.RuneError && size == 1 {
			if canGoOn(s[at:]) {
				return characters, places, refused(at, api.ErrShort)
			}
			return characters, places, refused(at, api.ErrChar)
		}
		if whole, found := k.composed[c]; found {
			characters, places = append(characters, whole[0], whole[1]), append(places, at, at)
		} else {
			characters, places = append(characters, c), append(places, at)
		}
		at += size
	}
	return characters, places, answer{}
}

// encode is P2.2, character by character.
func (k tables) encode(s string) answer {
	characters, places, end := k.split(s)
	text, current := "", byte(0x42)
	for i := 0; i < len(characters); i++ {
		c := characters[i]
		if isControl(c) {
			text += string(c)
			continue
		}
		b, common := byteOf(k.characters, c)
		if !common {
			name := k.setFor(c, current)
			if name == 0 {
				return refused(places[i], api.ErrChar)
			}
			b, _ = byteOf(k.sets[name], c)
			if name != current {
				text += "\x1b(" + string(rune(name))
				current = name
			}
		}
		for i+1 < len(characters) {
			mark, found := byteOf(k.marks, characters[i+1])
			if !found {
				break
			}
			text += string([]byte{mark})
			i++
		}
		text += string([]byte{b})
	}
	if end.kind != api.OK {
		return end
	}
	if current != 0x42 {
		text += "\x1b(B"
	}
	return answer{text: text}
}

// setFor returns the current set, if it has c, or else the first one that has it; 0, if there is none.
func (k tables) setFor(c rune, current byte) byte {
	for _, name := range []byte{current, 0x42, 0x53, 0x4E} {
		if _, found := byteOf(k.sets[name], c); found {
			return name
		}
	}
	return 0
}
