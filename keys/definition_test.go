package keys_test

import (
	"regexp"
	"slices"
	"strconv"
	"strings"
	"unicode/utf8"

	"pinakes/api"
)

// This file says what the chapter defines, in its words and without regard to speed.

// letterTable is the table of letters, as it is printed in the chapter.
const letterTable = `
| a | àáâãäåāăą ÀÁÂÃÄÅĀĂĄ |
| c | çćĉċč ÇĆĈĊČ |
| d | ďđð ĎĐÐ |
| e | èéêëēĕėęě ÈÉÊËĒĔĖĘĚ |
| g | ĝğġģ ĜĞĠĢ |
| h | ĥħ ĤĦ |
| i | ìíîïĩīĭįı ÌÍÎÏĨĪĬĮİ |
| j | ĵ Ĵ |
| k | ķ Ķ |
| l | ĺļľł ĹĻĽŁ |
| n | ñńņň ÑŃŅŇ |
| o | òóôõöøōŏőơ ÒÓÔÕÖØŌŎŐƠ |
| r | ŕŗř ŔŖŘ |
| s | śŝşš ŚŜŞŠ |
| t | ţťŧ ŢŤŦ |
| u | ùúûüũūŭůűųư ÙÚÛÜŨŪŬŮŰŲƯ |
| w | ŵ Ŵ |
| y | ýÿŷ ÝŸŶ |
| z | źżž ŹŻŽ |
| ae | æ Æ |
| oe | œ Œ |
| ss | ß |
| th | þ Þ |
| α | ά Ά |
| ε | έ Έ |
| η | ή Ή |
| ι | ίϊΐ ΊΪ |
| ο | ό Ό |
| υ | ύϋΰ ΎΫ |
| ω | ώ Ώ |
| е (U+0435) | ё Ё |
`

// definition holds the table of letters.
type definition struct {
	letters map[string]string
}

func readDefinition() definition {
	d := definition{letters: map[string]string{}}
	for line := range strings.Lines(strings.TrimSpace(letterTable)) {
		cells := strings.Split(line, "|")
		folded := strings.Fields(cells[1])[0]
		for _, c := range strings.Split(strings.ReplaceAll(cells[2], " ", ""), "") {
			d.letters[c] = folded
		}
	}
	return d
}

// characters divides a text: the longest valid sequence of one character, or a single byte.
func characters(s string) []string {
	var list []string
	for s != "" {
		size := 1
		for n := min(4, len(s)); n > 1; n-- {
			if utf8.ValidString(s[:n]) && utf8.RuneCountInString(s[:n]) == 1 {
				size = n
				break
			}
		}
		list = append(list, s[:size])
		s = s[size:]
	}
	return list
}

// folded is the table of folded characters, from its first line to its last one.
func (d definition) folded(character string) string {
	if !utf8.ValidString(character) {
		return " "
	}
	c, _ := utf8.DecodeRuneInString(character)
	small := strings.IndexRune("ABCDEFGHIJKLMNOPQRSTUVWXYZ", c)
	switch {
	case strings.ContainsRune("abcdefghijklmnopqrstuvwxyz0123456789", c):
		return character
	case small >= 0:
		return "abcdefghijklmnopqrstuvwxyz"[small : small+1]
	case c >= 0x0300 && c <= 0x036F || c >= 0xFE20 && c <= 0xFE2F:
		return ""
	case d.letters[character] != "":
		return d.letters[character]
	case c == 0x03C2:
		return "\u03c3"
	case c >= 0x03B1 && c <= 0x03C9:
		return character
	case c >= 0x0391 && c <= 0x03A9 && c != 0x03A2:
		return string(c + 32)
	case c >= 0x0430 && c <= 0x044F:
		return character
	case c >= 0x0410 && c <= 0x042F:
		return string(c + 32)
	}
	return " "
}

func (d definition) fold(s string) string {
	result := ""
	for _, c := range characters(s) {
		result += d.folded(c)
	}
	for strings.Contains(result, "  ") {
		result = strings.ReplaceAll(result, "  ", " ")
	}
	return strings.TrimSuffix(strings.TrimPrefix(result, " "), " ")
}

func (d definition) words(s string) []string {
	return regexp.MustCompile("[^ ]+").FindAllString(d.fold(s), -1)
}

func (d definition) sort(s string, skip int) string {
	skip = max(skip, 0)
	if skip > len(s) {
		skip = len(s)
	}
	words := d.words(s[skip:])
	for i, word := range words {
		if !regexp.MustCompile("^[0-9]+$").MatchString(word) {
			continue
		}
		for len(word) > 1 && word[0] == '0' {
			word = word[1:]
		}
		count := strconv.Itoa(len(word))
		if len(word) > 99 {
			count = "99"
		}
		if len(count) == 1 {
			count = "0" + count
		}
		words[i] = count + word
	}
	return strings.Join(words, " ")
}

// isbnByDefinition is P5.3; the empty string stands for none.
func isbnByDefinition(s string) string {
	start := regexp.MustCompile("^[0-9Xx \x2d]*").FindString(s)
	rest := regexp.MustCompile("[ \x2d]").ReplaceAllString(start, "")
	if regexp.MustCompile("^[0-9]{9}[0-9Xx]$").MatchString(rest) && strings.ToUpper(rest[9:]) == lastOfTen(rest[:9]) {
		return "978" + rest[:9] + lastOfThirteen("978"+rest[:9])
	}
	if regexp.MustCompile("^[0-9]{13}$").MatchString(rest) && rest[12:] == lastOfThirteen(rest[:12]) {
		return rest
	}
	return ""
}

// lastOfTen returns the last character that makes the sum divisible by 11.
func lastOfTen(nine string) string {
	for value, last := range strings.Split("0123456789X", "") {
		sum := value
		for i := range 9 {
			sum += (10 - i) * int(nine[i]-'0')
		}
		if sum%11 == 0 {
			return last
		}
	}
	panic("eleven values in a row, and none is divisible by 11")
}

// lastOfThirteen returns the digit that makes the sum divisible by 10.
func lastOfThirteen(twelve string) string {
	for last := range 10 {
		sum := last
		for position := 1; position <= 12; position++ {
			sum += []int{3, 1}[position%2] * int(twelve[position-1]-'0')
		}
		if sum%10 == 0 {
			return strconv.Itoa(last)
		}
	}
	panic("ten values in a row, and none is divisible by 10")
}

func textByDefinition(f api.Field, codes ...byte) string {
	text, texts := "", 0
	for _, s := range f.Subs {
		if slices.Contains(codes, s.Code) {
			if texts > 0 {
				text += " "
			}
			text += s.Text
			texts++
		}
	}
	return text
}

// firstWithTag returns the first field with a tag, in a list of one, or an empty list.
func firstWithTag(r api.Record, tag string) []api.Field {
	for i, f := range r.Fields {
		if f.Tag == tag {
			return r.Fields[i : i+1]
		}
	}
	return nil
}

func (d definition) title(r api.Record) string {
	for _, f := range firstWithTag(r, "245") {
		skip := 0
		if len(f.Ind) > 1 {
			skip = max(0, strings.Index("0123456789", f.Ind[1:2]))
		}
		return d.sort(textByDefinition(f, 'a', 'b'), skip)
	}
	return ""
}

func (d definition) all(r api.Record) []string {
	found := map[string]bool{}
	for _, f := range r.Fields {
		for _, s := range f.Subs {
			if f.Tag == "020" && s.Code == 'a' && isbnByDefinition(s.Text) != "" {
				found["isbn "+isbnByDefinition(s.Text)] = true
			}
		}
	}
	if title := d.title(r); title != "" {
		word := ""
		for _, f := range firstWithTag(r, "100") {
			if words := d.words(textByDefinition(f, 'a')); len(words) > 0 {
				word = words[0]
			}
		}
		found["title "+title+" / "+word] = true
	}
	var list []string
	for key := range found {
		list = append(list, key)
	}
	slices.Sort(list)
	return list
}
