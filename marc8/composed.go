package marc8

// parts are the letter and the mark of a composed character.
type parts struct {
	letter, mark rune
}

// family lists the characters that are composed with one mark, and their letters in the same order.
type family struct {
	mark              rune
	letters, composed string
}

// composedCharacters makes the table of the composed characters.
func composedCharacters() map[rune]parts {
	return compose(
		family{0x0300, "AEIOUaeiou", "ÀÈÌÒÙàèìòù"},
		family{0x0301, "AEIOUYaeiouyCcLlNnRrSsZz", "ÁÉÍÓÚÝáéíóúýĆćĹĺŃńŔŕŚśŹź"},
		family{0x0302, "AEIOUaeiouCcGgHhJjSsWwYy", "ÂÊÎÔÛâêîôûĈĉĜĝĤĥĴĵŜŝŴŵŶŷ"},
		family{0x0303, "ANOanoIiUu", "ÃÑÕãñõĨĩŨũ"},
		family{0x0308, "AEIOUaeiouyY", "ÄËÏÖÜäëïöüÿŸ"},
		family{0x030A, "AaUu", "ÅåŮů"},
		family{0x0327, "CcGgKkLlNnRrSsTt", "ÇçĢģĶķĻļŅņŖŗŞşŢţ"},
		family{0x0304, "AaEeIiOoUu", "ĀāĒēĪīŌōŪū"},
		family{0x0306, "AaEeGgIiOoUu", "ĂăĔĕĞğĬĭŎŏŬŭ"},
		family{0x0328, "AaEeIiUu", "ĄąĘęĮįŲų"},
		family{0x0307, "CcEeGgIZz", "ĊċĖėĠġİŻż"},
		family{0x030C, "CcDdEeLlNnRrSsTtZz", "ČčĎďĚěĽľŇňŘřŠšŤťŽž"},
		family{0x030B, "OoUu", "ŐőŰű"},
	)
}

func compose(families ...family) map[rune]parts {
	room := 0
	for _, f := range families {
		room += len(f.letters)
	}
	table := make(map[rune]parts, room)
	for _, f := range families {
		next := 0
		for _, c := range f.composed {
			table[c] = parts{letter: rune(f.letters[next]), mark: f.mark}
			next++
		}
	}
	return table
}
