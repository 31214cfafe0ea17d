package codec_test

import (
	"testing"

	"pinakes/api"
)

// sequence yields numbers that look random and are the same in every run.
type sequence uint64

func (q *sequence) next() uint64 {
	*q += 0x9e3779b97f4a7c15
	x := uint64(*q)
	x = (x ^ x>>30) * 0xbf58476d1ce4e5b9
	x = (x ^ x>>27) * 0x94d049bb133111eb
	return x ^ x>>31
}

// below returns a number from 0 to n-1.
func (q *sequence) below(n int) int { return int(q.next() % uint64(n)) }

// number returns a number of any magnitude: with as many bits as not.
func (q *sequence) number() uint64 { return q.next() >> q.below(64) }

func (q *sequence) text(size int) string {
	b := make([]byte, size)
	for i := range b {
		b[i] = byte(q.next())
	}
	return string(b)
}

func (q *sequence) texts(most, size int) []string {
	var l []string
	for range q.below(most + 1) {
		l = append(l, q.text(q.below(size+1)))
	}
	return l
}

func (q *sequence) integers(most int) []int {
	var l []int
	for range q.below(most + 1) {
		n := int(q.number())
		if q.below(2) == 0 {
			n = ^n
		}
		l = append(l, n)
	}
	return l
}

// forStrings calls check for every string of at most size of the bytes of alphabet.
func forStrings(alphabet string, size int, check func(string)) {
	level := []string{""}
	for n := 0; ; n++ {
		for _, s := range level {
			check(s)
		}
		if n == size {
			return
		}
		var longer []string
		for _, s := range level {
			for i := range len(alphabet) {
				longer = append(longer, s+alphabet[i:i+1])
			}
		}
		level = longer
	}
}

func expectError(t *testing.T, call, input string, got, want api.Errno) {
	t.Helper()
	if got != want {
		t.Errorf("%s(% x): error %d, want %d", call, input[:min(len(input), 40)], got, want)
	}
}
