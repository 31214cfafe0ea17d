package match

import (
	"pinakes/api"
	"pinakes/fields"
	"pinakes/keys"
)

// features is what records are compared by. An empty set, text or list stands for a missing feature.
type features struct {
	numbers map[string]bool
	title   string
	author  []string
	year    int
	kind    byte
}

// noYear stands for a missing year: 0 is a year.
const noYear = -1

func featuresOf(r api.Record) features {
	return features{
		numbers: numbersOf(r),
		title:   keys.Title(r),
		author:  keys.Words(fields.Text(fields.First(r, "100"), "a")),
		year:    yearOf(r),
		kind:    r.Kind,
	}
}

// numbersOf returns the set of the book numbers of a record.
func numbersOf(r api.Record) map[string]bool {
	numbers := map[string]bool{}
	for text := range fields.Texts(r, "020", 'a') {
		if number, right := keys.Isbn(text); right {
			numbers[number] = true
		}
	}
	return numbers
}

// The place of the year in the field 008.
const (
	startOfYear  = 7
	digitsOfYear = 4
	endOfYear    = startOfYear + digitsOfYear
)

// yearOf returns the year of the field 008, or else the one of the field 260.
func yearOf(r api.Record) int {
	if data := fields.First(r, "008").Data; len(data) >= endOfYear {
		if year := firstYear(data[startOfYear:endOfYear]); year != noYear {
			return year
		}
	}
	return firstYear(fields.Text(fields.First(r, "260"), "c"))
}

// firstYear returns the number of the first four neighbouring digits of a text, whatever stands around them.
func firstYear(s string) int {
	year, digits := 0, 0
	for i := range len(s) {
		if s[i] < '0' || s[i] > '9' {
			year, digits = 0, 0
			continue
		}
		year, digits = year*10+int(s[i]-'0'), digits+1
		if digits == digitsOfYear {
			return year
		}
	}
	return noYear
}
