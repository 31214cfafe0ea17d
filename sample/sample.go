// Package sample makes inputs for the tests of the layers. They are the same in every run.
package sample

import (
	"iter"
	"slices"
	"strings"
)

// Sequence yields numbers that look random. Each start value has a sequence of its own.
type Sequence uint64

// Next returns the next number.
func (q *Sequence) Next() uint64 {
	*q += 0x9e3779b97f4a7c15
	x := uint64(*q)
	x = (x ^ x>>30) * 0xbf58476d1ce4e5b9
	x = (x ^ x>>27) * 0x94d049bb133111eb
	return x ^ x>>31
}

// Below returns a number from 0 to n-1.
func (q *Sequence) Below(n int) int { return int(q.Next() % uint64(n)) }

// Number returns a number of any magnitude: few bits are as likely as many.
func (q *Sequence) Number() uint64 { return q.Next() >> q.Below(64) }

// Integer returns an integer of any magnitude and sign.
func (q *Sequence) Integer() int {
	n := int(q.Number())
	if q.Below(2) == 0 {
		return ^n
	}
	return n
}

// Bytes returns a string of so many arbitrary bytes.
func (q *Sequence) Bytes(size int) string {
	b := make([]byte, size)
	for i := range b {
		b[i] = byte(q.Next())
	}
	return string(b)
}

// Join returns a string of so many of the pieces.
func (q *Sequence) Join(pieces []string, size int) string {
	var b strings.Builder
	for range size {
		b.WriteString(pieces[q.Below(len(pieces))])
	}
	return b.String()
}

// One returns an element of a list.
func One[T any](q *Sequence, list ...T) T { return list[q.Below(len(list))] }

// Shuffled returns the elements of a list in another order.
func Shuffled[T any](q *Sequence, list []T) []T {
	list = slices.Clone(list)
	for i := range list {
		k := i + q.Below(len(list)-i)
		list[i], list[k] = list[k], list[i]
	}
	return list
}

// Singles returns the bytes of s as strings of one byte.
func Singles(s string) []string {
	var pieces []string
	for i := range len(s) {
		pieces = append(pieces, s[i:i+1])
	}
	return pieces
}

// Texts yields every string of at most size of the pieces, the short ones first.
func Texts(pieces []string, size int) iter.Seq[string] {
	return func(yield func(string) bool) {
		level := []string{""}
		for n := range size + 1 {
			for _, s := range level {
				if !yield(s) {
					return
				}
			}
			if n < size {
				level = longer(level, pieces)
			}
		}
	}
}

// longer returns every text of level with every piece behind it.
func longer(level, pieces []string) []string {
	var next []string
	for _, s := range level {
		for _, p := range pieces {
			next = append(next, s+p)
		}
	}
	return next
}
