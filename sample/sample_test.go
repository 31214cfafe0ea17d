package sample_test

import (
	"slices"
	"strings"
	"testing"

	"pinakes/sample"
)

// R4: the numbers are the same in every run, and differ from start to start.
func TestSequence(t *testing.T) {
	first, again, other := sample.Sequence(1), sample.Sequence(1), sample.Sequence(2)
	for range 1000 {
		n := first.Next()
		if n != again.Next() || n == other.Next() {
			t.Fatal("the numbers do not depend on the start alone")
		}
	}
	q := sample.Sequence(3)
	seen := map[int]bool{}
	for range 1000 {
		seen[q.Below(7)] = true
	}
	if len(seen) != 7 || !seen[0] || !seen[6] {
		t.Errorf("Below(7) has the values %v", seen)
	}
}

func TestPieces(t *testing.T) {
	q := sample.Sequence(4)
	if len(q.Bytes(9)) != 9 || len(q.Join([]string{"ab", "cd"}, 4)) != 8 {
		t.Error("Bytes or Join of another size")
	}
	if got := sample.Singles("a\xff"); !slices.Equal(got, []string{"a", "\xff"}) {
		t.Errorf("Singles: %q", got)
	}
	positive, negative := false, false
	for range 100 {
		n := q.Integer()
		positive, negative = positive || n > 0, negative || n < 0
	}
	if !positive || !negative {
		t.Error("Integer has no sign")
	}
}

// Each element comes in each place.
func TestLists(t *testing.T) {
	q := sample.Sequence(5)
	list := []string{"a", "b", "c"}
	ones, orders := map[string]bool{}, map[string]bool{}
	for range 200 {
		ones[sample.One(&q, list...)] = true
		orders[strings.Join(sample.Shuffled(&q, list), "")] = true
	}
	if len(ones) != 3 || len(orders) != 6 {
		t.Errorf("One returns %v, and Shuffled %v", ones, orders)
	}
	if !slices.Equal(list, []string{"a", "b", "c"}) || len(sample.Shuffled(&q, list[:0])) != 0 {
		t.Errorf("Shuffled changes the list to %q", list)
	}
}

func TestTexts(t *testing.T) {
	got := slices.Collect(sample.Texts([]string{"a", "bc"}, 2))
	if strings.Join(got, ",") != ",a,bc,aa,abc,bca,bcbc" {
		t.Errorf("Texts: %q", got)
	}
	for s := range sample.Texts([]string{"a"}, 1000000) {
		if s == "aaa" {
			break
		}
	}
}
