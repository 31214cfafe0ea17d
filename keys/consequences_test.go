package keys_test

import (
	"math/big"
	"slices"
	"strings"
	"testing"
	"unicode"

	"pinakes/api"
	"pinakes/keys"
	"pinakes/sample"
)

// P5.6: what is folded stays as it is.
func TestFoldOfFold(t *testing.T) {
	q := sample.Sequence(70)
	for range 20000 {
		folded := keys.Fold(someText(&q))
		expectFold(t, folded, folded)
	}
	for c := range rune(0x10000) {
		folded := keys.Fold(string(c))
		if keys.Fold(folded) != folded {
			t.Errorf("Fold of %+q, which is that of %+q: %+q", folded, c, keys.Fold(folded))
		}
	}
}

// P5.6: marks between the characters of a text do not change what it folds to.
func TestFoldWithoutMarks(t *testing.T) {
	q := sample.Sequence(71)
	marks := []string{"\u0300", "\u0301", "\u0327", "\u036f", "\ufe20", "\ufe2f"}
	for range 20000 {
		s := someText(&q)
		marked := ""
		for _, c := range characters(s) {
			marked += q.Join(marks, q.Below(3)) + c
		}
		expectFold(t, marked+q.Join(marks, q.Below(3)), keys.Fold(s))
	}
	for _, s := range []string{"é e\u0301", "Å A\u030a", "ç c\u0327", "ΐ ι\u0308\u0301", "ё е\u0308"} {
		words := keys.Words(s)
		if len(words) != 2 || words[0] != words[1] {
			t.Errorf("Words of %+q: %+q", s, words)
		}
	}
}

// P5.6: a letter and its capital fold to the same.
func TestFoldWithoutCase(t *testing.T) {
	d := readDefinition()
	letters := 0
	for c := range rune(0x10000) {
		if strings.TrimSpace(d.folded(string(c))) == "" {
			continue
		}
		letters++
		for _, other := range []rune{unicode.ToUpper(c), unicode.ToLower(c), unicode.ToTitle(c)} {
			if keys.Fold(string(other)) != keys.Fold(string(c)) {
				t.Errorf("%c folds to %q, and %c to %q", c, keys.Fold(string(c)), other, keys.Fold(string(other)))
			}
		}
	}
	if want := 26 + 10 + 26 + 207 + 25 + 24 + 32 + 32; letters != want {
		t.Errorf("%d characters fold to letters, want %d", letters, want)
	}
	for _, s := range []string{"Ordinary Words", "l'été à Łódź", "Οδυσσεύς", "Ёлка, Щепка"} {
		expectFold(t, strings.ToUpper(s), keys.Fold(s))
		expectFold(t, strings.ToLower(s), keys.Fold(s))
	}
}

// P5.6: which signs stand between words plays no part.
func TestFoldWithoutSigns(t *testing.T) {
	q := sample.Sequence(72)
	signs := []string{" ", "-", ".", "\t", "\u00a0", "\u2014", "日", "\xff", "\xe2\x82", "\u03a2"}
	for range 20000 {
		s := someText(&q)
		other := q.Join(signs, q.Below(3))
		for _, word := range keys.Words(s) {
			other += word + q.Join(signs, 1+q.Below(3))
		}
		expectFold(t, other, keys.Fold(s))
	}
}

// P5.6: numbers of at most 99 digits are in the order of their values.
func TestOrderOfNumbers(t *testing.T) {
	if two, ten := keys.Sort("volume 2", 0), keys.Sort("volume 10", 0); two >= ten {
		t.Errorf("%q is not before %q", two, ten)
	}
	q := sample.Sequence(73)
	orders := map[int]int{}
	for range 20000 {
		a, b := someDigits(&q), someDigits(&q)
		if q.Below(4) == 0 {
			b = "0" + a
		}
		want := value(a).Cmp(value(b))
		orders[want]++
		for _, text := range []string{"", "volume ", "7 é: "} {
			if got := strings.Compare(keys.Sort(text+a, 0), keys.Sort(text+b+" ", 0)); want != 0 && got != want || want == 0 && keys.Sort(a, 0) != keys.Sort(b, 0) {
				t.Errorf("%q and %q are in the order %d, want %d", text+a, text+b, got, want)
			}
		}
	}
	if orders[-1] < 1000 || orders[0] < 1000 || orders[1] < 1000 {
		t.Errorf("not all orders occurred: %v", orders)
	}
}

// someDigits makes a number of at most 99 digits, apart from zeros at its beginning.
func someDigits(q *sample.Sequence) string {
	digits := []string{"0", "1", "9"}
	size := []int{1 + q.Below(3), 8 + q.Below(4), 97 + q.Below(3), 1 + q.Below(99)}[q.Below(4)]
	return strings.Repeat("0", q.Below(3)) + q.Join(digits, size)
}

func value(digits string) *big.Int {
	n, _ := new(big.Int).SetString(digits, 10)
	return n
}

// P5.6: a number with ten digits has the key of that with 13 digits.
func TestBothLengthsOfBookNumbers(t *testing.T) {
	q := sample.Sequence(74)
	digits := sample.Singles("0123456789")
	for range 5000 {
		nine := q.Join(digits, 9)
		short, long := nine+lastOfTen(nine), "978"+nine+lastOfThirteen("978"+nine)
		expectIsbn(t, short, long)
		expectIsbn(t, long, long)
		expectAll(t, record(field("020", "  ", "a"+short)), "isbn "+long)
		expectAll(t, record(field("020", "  ", "a"+long), field("020", "  ", "a"+short)), "isbn "+long)
	}
}

// P5.6: the order of the fields 020 plays no part for All, and neither do Kind, Level and other fields.
func TestWhatHasNoEffectOnKeys(t *testing.T) {
	q := sample.Sequence(75)
	for range 10000 {
		r := someRecord(&q)
		want := keys.All(r)
		other := sample.CopyOf(r)
		other.Kind, other.Level = byte(q.Next()), byte(q.Next())
		mixNumbers(&q, other.Fields)
		expectAll(t, other, want...)
		at := q.Below(len(other.Fields) + 1)
		other.Fields = slices.Insert(other.Fields, at, field("700", "14", "aX", "b0306406152"))
		expectAll(t, other, want...)
	}
}

// mixNumbers exchanges fields 020.
func mixNumbers(q *sample.Sequence, fields []api.Field) {
	var places []int
	for i, f := range fields {
		if f.Tag == "020" {
			places = append(places, i)
		}
	}
	for range len(places) {
		i, j := places[q.Below(len(places))], places[q.Below(len(places))]
		fields[i], fields[j] = fields[j], fields[i]
	}
}

// P5.5: keys are in increasing order of their bytes, each once.
func TestOrderOfKeys(t *testing.T) {
	q := sample.Sequence(76)
	for range 10000 {
		r := someRecord(&q)
		list := keys.All(r)
		for i := 1; i < len(list); i++ {
			if list[i-1] >= list[i] {
				t.Errorf("All(%s): %+q", shown(r), list)
			}
		}
	}
}
