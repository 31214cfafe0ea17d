package codec_test

import (
	"testing"

	"pinakes/api"
	"pinakes/sample"
)

func texts(q *sample.Sequence, most, size int) []string {
	var l []string
	for range q.Below(most + 1) {
		l = append(l, q.Bytes(q.Below(size+1)))
	}
	return l
}

func integers(q *sample.Sequence, most int) []int {
	var l []int
	for range q.Below(most + 1) {
		l = append(l, q.Integer())
	}
	return l
}

func expectError(t *testing.T, call, input string, got, want api.Errno) {
	t.Helper()
	if got != want {
		t.Errorf("%s(% x): error %d, want %d", call, input[:min(len(input), 40)], got, want)
	}
}
