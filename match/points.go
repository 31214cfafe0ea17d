package match

import "slices"

// points returns the sum of what the features of two records count. A feature that one of them has not counts nothing.
func points(a, b features) int {
	return numberPoints(a.numbers, b.numbers) +
		titlePoints(a.title, b.title) +
		authorPoints(a.author, b.author) +
		yearPoints(a.year, b.year) +
		kindPoints(a.kind, b.kind)
}

func numberPoints(a, b map[string]bool) int {
	switch {
	case len(a) == 0 || len(b) == 0:
		return 0
	case haveCommon(a, b):
		return 50
	default:
		return -30
	}
}

// haveCommon says whether two sets have an element in common. It visits the smaller one: a record may have far more numbers than the many others it is compared with.
func haveCommon(a, b map[string]bool) bool {
	if len(a) > len(b) {
		a, b = b, a
	}
	for number := range a {
		if b[number] {
			return true
		}
	}
	return false
}

func titlePoints(a, b string) int {
	switch {
	case a == "" || b == "":
		return 0
	case a == b:
		return 30
	default:
		return -20
	}
}

func authorPoints(a, b []string) int {
	switch {
	case len(a) == 0 || len(b) == 0:
		return 0
	case slices.Equal(a, b):
		return 15
	case a[0] == b[0]:
		return 8
	default:
		return -15
	}
}

func yearPoints(a, b int) int {
	switch {
	case a == noYear || b == noYear:
		return 0
	case a == b:
		return 10
	case a-b == 1 || b-a == 1:
		return 0
	default:
		return -10
	}
}

func kindPoints(a, b byte) int {
	if a == b {
		return 0
	}
	return -40
}
