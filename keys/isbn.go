package keys

import "strings"

// The lengths of book numbers.
const (
	shortNumber = 10
	longNumber  = 13
)

// shortPrefix is what stands in front of a short number in the long one that stands for it.
const shortPrefix = "978"

// Isbn returns the long book number with which a text begins, also for a short one.
func Isbn(s string) (string, bool) {
	number := leadingNumber(s)
	switch {
	case isShortNumber(number):
		twelve := shortPrefix + number[:shortNumber-1]
		return twelve + checkDigit(twelve), true
	case isLongNumber(number):
		return number, true
	default:
		return "", false
	}
}

// leadingNumber returns the longest beginning of a text that could belong to a book number, without blanks and hyphens.
func leadingNumber(s string) string {
	var b strings.Builder
	for i := range len(s) {
		switch c := s[i]; {
		case isDigit(c) || isTen(c):
			b.WriteByte(c)
		case c != ' ' && c != '-':
			return b.String()
		}
	}
	return b.String()
}

// isTen says whether a character stands for the value 10.
func isTen(b byte) bool { return b == 'X' || b == 'x' }

// isShortNumber says whether a number is short and right. Its last character is a digit or ten, as all of a leading number are.
func isShortNumber(number string) bool {
	if len(number) != shortNumber || !areDigits(number[:shortNumber-1]) {
		return false
	}
	sum := 0
	for i := range shortNumber {
		sum += (shortNumber - i) * valueOf(number[i])
	}
	return sum%11 == 0
}

func valueOf(b byte) int {
	if isTen(b) {
		return 10
	}
	return int(b - '0')
}

func isLongNumber(number string) bool {
	const last = longNumber - 1
	return len(number) == longNumber && areDigits(number) && checkDigit(number[:last]) == number[last:]
}

// checkDigit returns the last digit of the long number that begins with twelve digits.
func checkDigit(twelve string) string {
	sum := 0
	for i := range len(twelve) {
		weight := 1
		if i%2 == 1 {
			weight = 3
		}
		sum += weight * valueOf(twelve[i])
	}
	return string([]byte{digit((10 - sum%10) % 10)})
}
