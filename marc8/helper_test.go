package marc8_test

import (
	"strconv"
	"strings"
	"testing"

	"pinakes/api"
)

// answer is what a conversion returns.
type answer struct {
	text string
	at   int
	kind api.Errno
}

func refused(at int, kind api.Errno) answer { return answer{at: at, kind: kind} }

func answerOf(conversion func(string) (string, int, api.Errno), s string) answer {
	text, at, kind := conversion(s)
	return answer{text, at, kind}
}

func expect(t *testing.T, call string, conversion func(string) (string, int, api.Errno), s string, want answer) {
	t.Helper()
	if got := answerOf(conversion, s); got != want {
		t.Fatalf("%s of %q: %q, %d, error %d; want %q, %d, error %d", call, s, got.text, got.at, got.kind, want.text, want.at, want.kind)
	}
}

// sequence yields numbers that look random and are the same in every run.
type sequence uint64

func (q *sequence) next() uint64 {
	*q += 0x9e3779b97f4a7c15
	x := uint64(*q)
	x = (x ^ x>>30) * 0xbf58476d1ce4e5b9
	x = (x ^ x>>27) * 0x94d049bb133111eb
	return x ^ x>>31
}

// below returns a number from 0 to n-1.
func (q *sequence) below(n int) int { return int(q.next() % uint64(n)) }

// text joins so many of pieces.
func (q *sequence) text(pieces []string, size int) string {
	var b strings.Builder
	for range size {
		b.WriteString(pieces[q.below(len(pieces))])
	}
	return b.String()
}

// forTexts calls check for every text of at most size of the pieces.
func forTexts(pieces []string, size int, check func(string)) {
	level := []string{""}
	for n := 0; ; n++ {
		for _, s := range level {
			check(s)
		}
		if n == size {
			return
		}
		var longer []string
		for _, s := range level {
			for _, p := range pieces {
				longer = append(longer, s+p)
			}
		}
		level = longer
	}
}

// hexBytes makes pieces of one byte each of bytes in hexadecimal.
func hexBytes(list string) []string {
	var pieces []string
	for _, word := range strings.Fields(list) {
		pieces = append(pieces, string([]byte{byte(hex(word))}))
	}
	return pieces
}

func hex(word string) rune {
	n, err := strconv.ParseUint(word, 16, 32)
	if err != nil {
		panic(err)
	}
	return rune(n)
}
