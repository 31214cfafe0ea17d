package keys_test

import (
	"strings"
	"testing"

	"pinakes/keys"
	"pinakes/sample"
)

// P5.3: the examples of the chapter, and numbers of known books.
func TestKnownIsbns(t *testing.T) {
	for s, want := range map[string]string{
		"0-306-40615-2 (pbk.)": "9780306406157",
		"9780306406157":        "9780306406157",
		"0306406153":           "",
		"0-8044-2957-X":        "9780804429573",
		"080442957x":           "9780804429573",
		"99921-58-10-7":        "9789992158104",
		"9971-5-0210-0":        "9789971502102",
		"85-359-0277-5":        "9788535902778",
		"1-84356-028-3":        "9781843560289",
		"0 9752298 0 X":        "9780975229804",
		"978-3-16-148410-0":    "9783161484100",
		"979-10-90636-07-1":    "9791090636071",
		"978 0 306 40615 7":    "9780306406157",
		// No prefix is asked for.
		"0000000000000": "0000000000000",
		"4006381333931": "4006381333931",
		"0000000000":    "9780000000002",
	} {
		expectIsbn(t, s, want)
	}
}

// P5.3: blanks and hyphens are left out wherever they stand; nothing else is.
func TestBlanksAndHyphens(t *testing.T) {
	for _, n := range []string{"0306406152", "080442957X", "9780306406157"} {
		want := isbnByDefinition(n)
		for at := range len(n) + 1 {
			for _, gap := range []string{" ", "-", "--", "  ", " - ", strings.Repeat("- ", 5000)} {
				expectIsbn(t, n[:at]+gap+n[at:], want)
			}
			for _, gap := range []string{"\t", "\n", "_", ".", "/", "\u00a0", "\u2010", "\u2013", "\xad", "\x00", "\u0301", "a", "\xff"} {
				if at < len(n) {
					expectIsbn(t, n[:at]+gap+n[at:], "")
				} else {
					expectIsbn(t, n[:at]+gap+n[at:], want)
				}
			}
		}
		expectIsbn(t, strings.Join(strings.Split(n, ""), "-"), want)
		expectIsbn(t, " -"+strings.Join(strings.Split(n, ""), " ")+"- ", want)
	}
}

// P5.3: text behind the number, which is no part of it unless it begins with what may belong to one.
func TestTextBehindNumbers(t *testing.T) {
	for _, n := range []string{"0306406152", "080442957x", "9780306406157"} {
		want := isbnByDefinition(n)
		for _, text := range []string{"", " ", "-", " (pbk.)", ":", "ISBN", " : £5", "a1", "\xff1", "é", " \u0301", "y", " - -", ".0", "\u0660"} {
			expectIsbn(t, n+text, want)
		}
		for _, text := range []string{"0", "x", "X", " 1", "-1", " x", "- X-Men", " 2 vols.", " " + n} {
			expectIsbn(t, n+text, "")
		}
		for _, text := range []string{"ISBN ", "a", ":", "(", "\xff", "\u0301", "\t", "\n"} {
			expectIsbn(t, text+n, "")
		}
		for _, text := range []string{"0", "X", "x ", "1-"} {
			expectIsbn(t, text+n, "")
		}
	}
}

// P5.3: X is permitted at the end of a short number alone, where it counts as 10.
func TestX(t *testing.T) {
	for _, s := range []string{
		"X306406152", "0X06406152", "03064061X2", "x306406152", "030640615X", "030640615x", "X80442957X", "0804429xXX",
		"978030640615X", "978030640615x", "X780306406157", "978030640X157", "97808044295X3", "X", "x", "XXXXXXXXXX", "XXXXXXXXXXXXX", "xxxxxxxxxx",
	} {
		expectIsbn(t, s, "")
	}
	for _, last := range []string{"X", "x", "-X", " x", "- X", "X (pbk.)", "x.", "Xé"} {
		expectIsbn(t, "080442957"+last, "9780804429573")
		expectIsbn(t, "155404295"+last, isbnByDefinition("155404295X"))
	}
	if lastOfTen("155404295") != "X" {
		t.Error("155404295X is no book number")
	}
}

// P5.3: X elsewhere, where a sum in which it counts as 10 would be divisible.
func TestXInRightSums(t *testing.T) {
	for at := range 12 {
		for last := range 11 {
			lastDigit := strings.Split("0123456789X", "")[last]
			if at < 9 && ((10-at)*10+last)%11 == 0 {
				expectIsbn(t, strings.Repeat("0", at)+"X"+strings.Repeat("0", 8-at)+lastDigit, "")
			}
			if last%10 == 0 { // three times 10 is divisible by 10, too
				expectIsbn(t, strings.Repeat("0", at)+"X"+strings.Repeat("0", 11-at)+lastDigit, "")
			}
		}
	}
}

// P5.3: of other lengths than ten and thirteen characters there are no numbers.
func TestLengths(t *testing.T) {
	zeros := strings.Repeat("0", 30)
	for n := range len(zeros) + 1 {
		want := ""
		switch n {
		case 10:
			want = "9780000000002"
		case 13:
			want = zeros[:13]
		}
		expectIsbn(t, zeros[:n], want)
		expectIsbn(t, "-"+zeros[:n]+" a", want)
	}
	for _, s := range []string{"", " ", "-", "030640615", "03064061520", "030640615200", "00306406152", "97803064061", "978030640615", "97803064061570", "09780306406157", "978-0-306-40615"} {
		expectIsbn(t, s, "")
	}
}

// P5.3: of all last characters, one is right.
func TestCheckDigits(t *testing.T) {
	q := sample.Sequence(63)
	digits := sample.Singles("0123456789")
	seen := map[string]int{}
	for range 2000 {
		nine, twelve := q.Join(digits, 9), q.Join(digits, 12)
		for _, last := range strings.Split("0123456789Xx", "") {
			short, long := "", ""
			if strings.ToUpper(last) == lastOfTen(nine) {
				short = "978" + nine + lastOfThirteen("978"+nine)
				seen["short "+last]++
			}
			if last == lastOfThirteen(twelve) {
				long = twelve + last
				seen["long "+last]++
			}
			expectIsbn(t, nine+last, short)
			expectIsbn(t, twelve+last, long)
		}
	}
	if len(seen) != 12+10 {
		t.Errorf("not all check digits occurred: %v", seen)
	}
}

// P5.3: the weight of each place: one digit more or less is wrong.
func TestWeights(t *testing.T) {
	for at := range 9 {
		nine := strings.Repeat("0", at) + "1" + strings.Repeat("0", 8-at)
		last := strings.Split("0123456789X", "")[11-(10-at)]
		expectIsbn(t, nine+last, "978"+nine+lastOfThirteen("978"+nine))
	}
	for at := range 12 {
		twelve := strings.Repeat("0", at) + "1" + strings.Repeat("0", 11-at)
		expectIsbn(t, twelve+[]string{"9", "7"}[at%2], twelve+[]string{"9", "7"}[at%2])
		expectIsbn(t, twelve+[]string{"7", "9"}[at%2], "")
	}
}

// P5.3: all bytes at each place of a number.
func TestBytesOfNumbers(t *testing.T) {
	for _, n := range []string{"0306406152", "080442957X", "9780306406157"} {
		for at := range n {
			for b := range 256 {
				s := n[:at] + string([]byte{byte(b)}) + n[at+1:]
				expectIsbn(t, s, isbnByDefinition(s))
			}
		}
	}
}

// P5.3, P1: arbitrary texts, of which many begin with a number.
func TestIsbnOfArbitraryTexts(t *testing.T) {
	q := sample.Sequence(64)
	numbers := 0
	for range 20000 {
		s := someNumber(&q)
		if q.Below(8) == 0 {
			s = someText(&q)
		}
		want := isbnByDefinition(s)
		expectIsbn(t, s, want)
		if want != "" {
			numbers++
		}
	}
	if numbers < 5000 || numbers > 18000 {
		t.Errorf("%d texts begin with a number", numbers)
	}
}

// P1: large texts.
func TestIsbnOfLargeTexts(t *testing.T) {
	const size = 1 << 20
	for _, piece := range []string{"0", "X", " ", "-", "9 ", "é", "\xff"} {
		expectIsbn(t, strings.Repeat(piece, size), "")
	}
	expectIsbn(t, strings.Repeat("-", size)+"0306406152"+strings.Repeat(" ", size), "9780306406157")
	expectIsbn(t, "0306406152 "+strings.Repeat("z", size), "9780306406157")
}

// P5.3: what Isbn returns is its own number.
func TestIsbnOfIsbn(t *testing.T) {
	q := sample.Sequence(65)
	for range 5000 {
		if n, right := keys.Isbn(someNumber(&q)); right {
			expectIsbn(t, n, n)
		}
	}
}
