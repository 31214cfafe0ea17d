package match_test

import (
	"regexp"
	"slices"
	"strconv"

	"pinakes/api"
	"pinakes/keys"
)

// This file says what the chapter defines, in its words and without regard to speed.

// feature is a value of a feature: a text for each of its elements, words or digits. A missing one has none.
type feature []string

func bookNumbersOf(r api.Record) feature {
	var set feature
	for _, f := range r.Fields {
		for _, s := range f.Subs {
			if f.Tag == "020" && s.Code == 'a' {
				if number, right := keys.Isbn(s.Text); right && !slices.Contains(set, number) {
					set = append(set, number)
				}
			}
		}
	}
	return set
}

func titleOf(r api.Record) feature {
	if keys.Title(r) == "" {
		return nil
	}
	return feature{keys.Title(r)}
}

func authorOf(r api.Record) feature {
	for _, f := range r.Fields {
		if f.Tag == "100" {
			return keys.Words(textByDefinition(f, 'a'))
		}
	}
	return nil
}

func yearByDefinition(r api.Record) feature {
	for _, f := range r.Fields {
		if f.Tag == "008" {
			if digits := regexp.MustCompile(`(?s)^.{7}([0-9]{4})`).FindStringSubmatch(latin(f.Data)); digits != nil {
				return digits[1:]
			}
			break
		}
	}
	for _, f := range r.Fields {
		if f.Tag == "260" {
			if digits := regexp.MustCompile(`[0-9]{4}`).FindString(textByDefinition(f, 'c')); digits != "" {
				return feature{digits}
			}
			break
		}
	}
	return nil
}

// latin returns a text with one character for each byte.
func latin(s string) string {
	var list []rune
	for i := range len(s) {
		list = append(list, rune(s[i]))
	}
	return string(list)
}

func textByDefinition(f api.Field, code byte) string {
	text, texts := "", 0
	for _, s := range f.Subs {
		if s.Code == code {
			if texts > 0 {
				text += " "
			}
			text += s.Text
			texts++
		}
	}
	return text
}

// countsByDefinition returns the numbers of P6.1, in the order of the table.
func countsByDefinition(a, b api.Record) [5]int {
	var counts [5]int
	for i, value := range []func(api.Record) feature{bookNumbersOf, titleOf, authorOf, yearByDefinition} {
		x, y := value(a), value(b)
		if len(x) == 0 || len(y) == 0 {
			continue
		}
		counts[i] = []func(x, y feature) int{countNumbers, countTitles, countAuthors, countYears}[i](x, y)
	}
	if a.Kind != b.Kind {
		counts[4] = -40
	}
	return counts
}

func countNumbers(x, y feature) int {
	for _, number := range x {
		if slices.Contains(y, number) {
			return 50
		}
	}
	return -30
}

func countTitles(x, y feature) int {
	if x[0] == y[0] {
		return 30
	}
	return -20
}

func countAuthors(x, y feature) int {
	if slices.Equal(x, y) {
		return 15
	}
	if x[0] == y[0] {
		return 8
	}
	return -15
}

func countYears(x, y feature) int {
	first, _ := strconv.Atoi(x[0])
	second, _ := strconv.Atoi(y[0])
	switch first - second {
	case 0:
		return 10
	case 1, -1:
		return 0
	}
	return -10
}

func pointsByDefinition(a, b api.Record) int {
	sum := 0
	for _, count := range countsByDefinition(a, b) {
		sum += count
	}
	return sum
}

func haveKeyInCommon(a, b api.Record) bool {
	return slices.ContainsFunc(keys.All(a), func(key string) bool { return slices.Contains(keys.All(b), key) })
}

// pairsByDefinition returns the pairs of P6.3.
func pairsByDefinition(l []api.Record) [][2]int {
	var list [][2]int
	for i := range l {
		for k := i + 1; k < len(l); k++ {
			if pointsByDefinition(l[i], l[k]) >= 40 && haveKeyInCommon(l[i], l[k]) {
				list = append(list, [2]int{i, k})
			}
		}
	}
	return list
}

// partsByDefinition returns the parts of P6.4: to each number that is in no part yet, it adds what a pair leads to, until there is nothing more.
func partsByDefinition(n int, pairs [][2]int) [][]int {
	var parts [][]int
	for number := range n {
		if slices.ContainsFunc(parts, func(part []int) bool { return slices.Contains(part, number) }) {
			continue
		}
		part := []int{number}
		for size := 0; size < len(part); {
			size = len(part)
			for _, p := range pairs {
				if min(p[0], p[1]) < 0 || max(p[0], p[1]) >= n {
					continue
				}
				for _, way := range [][2]int{p, {p[1], p[0]}} {
					if slices.Contains(part, way[0]) && !slices.Contains(part, way[1]) {
						part = append(part, way[1])
					}
				}
			}
		}
		slices.Sort(part)
		parts = append(parts, part)
	}
	return parts
}
