package keys

// What is no letter and no digit is folded to one of these.
const (
	nothing rune = -1
	blank   rune = ' '
)

// The small letters of Greek and of Cyrillic that are folded by their numbers alone. (As characters, some of them look like Latin ones.)
const (
	firstGreek    rune = 0x03B1
	lastGreek     rune = 0x03C9
	firstCyrillic rune = 0x0430
	lastCyrillic  rune = 0x044F

	sigma      rune = 0x03C3
	finalSigma rune = 0x03C2
)

// toSmall is the distance from the capitals of these letters to them. The final sigma has no capital.
const toSmall = 32

// foldedAlone returns what a character is folded to by its number alone: a blank also for those of the table of letters.
func foldedAlone(c rune) rune {
	switch {
	case between(c, 'a', 'z'), between(c, '0', '9'):
		return c
	case between(c, 'A', 'Z'):
		return c - 'A' + 'a'
	case between(c, 0x0300, 0x036F), between(c, 0xFE20, 0xFE2F):
		return nothing
	case c == finalSigma:
		return sigma
	case isSmall(c):
		return c
	case isSmall(c+toSmall) && c+toSmall != finalSigma:
		return c + toSmall
	default:
		return blank
	}
}

func isSmall(c rune) bool {
	return between(c, firstGreek, lastGreek) || between(c, firstCyrillic, lastCyrillic)
}

func between(c, first, last rune) bool { return first <= c && c <= last }

// family lists the characters that are folded to the same letters.
type family struct {
	letters, characters string
}

// tableOfLetters makes the table of letters: what stands there for each of its characters.
func tableOfLetters() map[rune]string {
	return gather(
		family{"a", "àáâãäåāăąÀÁÂÃÄÅĀĂĄ"},
		family{"c", "çćĉċčÇĆĈĊČ"},
		family{"d", "ďđðĎĐÐ"},
		family{"e", "èéêëēĕėęěÈÉÊËĒĔĖĘĚ"},
		family{"g", "ĝğġģĜĞĠĢ"},
		family{"h", "ĥħĤĦ"},
		family{"i", "ìíîïĩīĭįıÌÍÎÏĨĪĬĮİ"},
		family{"j", "ĵĴ"},
		family{"k", "ķĶ"},
		family{"l", "ĺļľłĹĻĽŁ"},
		family{"n", "ñńņňÑŃŅŇ"},
		family{"o", "òóôõöøōŏőơÒÓÔÕÖØŌŎŐƠ"},
		family{"r", "ŕŗřŔŖŘ"},
		family{"s", "śŝşšŚŜŞŠ"},
		family{"t", "ţťŧŢŤŦ"},
		family{"u", "ùúûüũūŭůűųưÙÚÛÜŨŪŬŮŰŲƯ"},
		family{"w", "ŵŴ"},
		family{"y", "ýÿŷÝŸŶ"},
		family{"z", "źżžŹŻŽ"},
		family{"ae", "æÆ"},
		family{"oe", "œŒ"},
		family{"ss", "ß"},
		family{"th", "þÞ"},
		family{"α", "άΆ"},
		family{"ε", "έΈ"},
		family{"η", "ήΉ"},
		family{"ι", "ίϊΐΊΪ"},
		family{"ο", "όΌ"},
		family{"υ", "ύϋΰΎΫ"},
		family{"ω", "ώΏ"},
		family{"е", "ёЁ"},
	)
}

func gather(families ...family) map[rune]string {
	room := 0
	for _, f := range families {
		room += len(f.characters) / 2 // as all of them have two bytes
	}
	table := make(map[rune]string, room)
	for _, f := range families {
		for _, c := range f.characters {
			table[c] = f.letters
		}
	}
	return table
}
