package codec_test

import (
	"hash/crc32"
	"strings"
	"testing"

	"pinakes/codec"
	"pinakes/sample"
)

// P1.1: values that others publish for the CRC-32 of IEEE 802.3.
func TestSumOfKnownStrings(t *testing.T) {
	cases := []struct {
		s    string
		want uint32
	}{
		{"", 0},
		{"\x00", 0xd202ef8d},
		{"a", 0xe8b7be43},
		{"abc", 0x352441c2},
		{"123456789", 0xcbf43926},
		{"The quick brown fox jumps over the lazy dog", 0x414fa339},
		{strings.Repeat("\x00", 32), 0x190a55ad},
		{strings.Repeat("\xff", 32), 0xff6cab0b},
	}
	for _, c := range cases {
		if got := codec.Sum(c.s); got != c.want {
			t.Errorf("Sum(% x): %#x, want %#x", c.s, got, c.want)
		}
	}
}

// P1.1: the register as the document describes it, bit by bit.
func TestSumFollowsTheDefinition(t *testing.T) {
	bitwise := func(s string) uint32 {
		register := uint32(0xffffffff)
		for _, b := range []byte(s) {
			register ^= uint32(b)
			for range 8 {
				out := register&1 == 1
				register >>= 1
				if out {
					register ^= 0xedb88320
				}
			}
		}
		return ^register
	}
	for b := range 256 {
		s := string([]byte{byte(b)})
		if codec.Sum(s) != bitwise(s) {
			t.Errorf("Sum of the byte %x: %#x, want %#x", b, codec.Sum(s), bitwise(s))
		}
	}
	q := sample.Sequence(11)
	for range 500 {
		s := q.Bytes(q.Below(300))
		if codec.Sum(s) != bitwise(s) {
			t.Errorf("Sum(% x): %#x, want %#x", s, codec.Sum(s), bitwise(s))
		}
	}
}

// P1.1: the length of the string does not matter.
func TestSumOfLongStrings(t *testing.T) {
	q := sample.Sequence(12)
	for _, size := range []int{1000, 4096, 65537, 1 << 20} {
		s := q.Bytes(size)
		if got, want := codec.Sum(s), crc32.ChecksumIEEE([]byte(s)); got != want {
			t.Errorf("Sum of %d bytes: %#x, want %#x", size, got, want)
		}
	}
}

// P1.7: every difference within four bytes that follow each other changes the checksum.
func TestSumTellsBursts(t *testing.T) {
	q := sample.Sequence(13)
	for range 20000 {
		s := q.Bytes(1 + q.Below(60))
		other := []byte(s)
		from := q.Below(len(other))
		for i := from; i < len(other) && i < from+4; i++ {
			other[i] ^= byte(q.Next())
		}
		if string(other) != s && codec.Sum(string(other)) == codec.Sum(s) {
			t.Errorf("Sum(% x) equals Sum(% x)", s, other)
		}
	}
}

// P1.7: the least differences, of one bit, at every place, also in the middle of a long string.
func TestSumTellsSingleBits(t *testing.T) {
	for _, s := range []string{"\x00", "ab", "four", strings.Repeat("x", 500)} {
		sum := codec.Sum(s)
		for i := range len(s) * 8 {
			other := []byte(s)
			other[i/8] ^= 1 << (i % 8)
			if codec.Sum(string(other)) == sum {
				t.Errorf("Sum(%.20q) does not change with bit %d", s, i)
			}
		}
	}
}
