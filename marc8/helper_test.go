package marc8_test

import (
	"strconv"
	"strings"
	"testing"

	"pinakes/api"
)

// answer is what a conversion returns.
type answer struct {
	text string
	at   int
	kind api.Errno
}

func refused(at int, kind api.Errno) answer { return answer{at: at, kind: kind} }

func answerOf(conversion func(string) (string, int, api.Errno), s string) answer {
	text, at, kind := conversion(s)
	return answer{text, at, kind}
}

func expect(t *testing.T, call string, conversion func(string) (string, int, api.Errno), s string, want answer) {
	t.Helper()
	if got := answerOf(conversion, s); got != want {
		t.Fatalf("%s of %q: %q, %d, error %d; want %q, %d, error %d", call, s, got.text, got.at, got.kind, want.text, want.at, want.kind)
	}
}

// hexBytes makes pieces of one byte each of bytes in hexadecimal.
func hexBytes(list string) []string {
	var pieces []string
	for _, word := range strings.Fields(list) {
		pieces = append(pieces, string([]byte{byte(hex(word))}))
	}
	return pieces
}

func hex(word string) rune {
	n, err := strconv.ParseUint(word, 16, 32)
	if err != nil {
		panic(err)
	}
	return rune(n)
}
