package keys

import "strings"

// mostDigits is the greatest number of digits that can be written in front of a number.
const mostDigits = 99

// Sort returns the collation key of a text without its first skip bytes: its words, with numbers in a form that is ordered by their values.
func Sort(s string, skip int) string {
	return join(s[min(max(skip, 0), len(s)):], collated)
}

// collated returns the form of a word in a collation key. As the number of digits comes first, a number with fewer digits comes first.
func collated(word string) string {
	if !areDigits(word) {
		return word
	}
	number := strings.TrimLeft(word, "0")
	if number == "" {
		number = "0"
	}
	return twoDigits(min(len(number), mostDigits)) + number
}

func twoDigits(n int) string {
	return string([]byte{digit(n / 10), digit(n % 10)})
}

func digit(n int) byte { return '0' + byte(n) }

func isDigit(b byte) bool { return '0' <= b && b <= '9' }

func areDigits(s string) bool {
	for i := range len(s) {
		if !isDigit(s[i]) {
			return false
		}
	}
	return true
}
