package codec_test

import (
	"math"
	"slices"
	"strings"
	"testing"

	"pinakes/api"
	"pinakes/codec"
	"pinakes/sample"
)

// P1.5: lists with bytes that the document gives, or that follow from its words.
func TestPackOfKnownLists(t *testing.T) {
	long := strings.Repeat("x", 300)
	cases := []struct {
		l    []string
		want string
	}{
		{nil, "\x00"},
		{[]string{}, "\x00"},
		{[]string{""}, "\x01\x00"},
		{[]string{"ab", ""}, "\x02\x02ab\x00"},
		{[]string{"", "ab"}, "\x02\x00\x02ab"},
		{[]string{"\x00\xff", "é"}, "\x02\x02\x00\xff\x02\xc3\xa9"},
		{[]string{long}, "\x01\xac\x02" + long},
		{make([]string, 128), "\x80\x01" + strings.Repeat("\x00", 128)},
	}
	for _, c := range cases {
		if got := codec.Pack(c.l); got != c.want {
			t.Errorf("Pack(%.40q): % x, want % x", c.l, got, c.want)
		}
	}
}

// P1.5: the parts in their order, for any lists.
func TestPackFollowsTheDefinition(t *testing.T) {
	q := sample.Sequence(31)
	for range 500 {
		l := texts(&q, 200, 200)
		want := codec.Number(uint64(len(l)))
		for _, s := range l {
			want += codec.Number(uint64(len(s))) + s
		}
		if codec.Pack(l) != want {
			t.Fatalf("Pack(%q): % x, want % x", l, codec.Pack(l), want)
		}
	}
}

// P1.6: the errors in the order in which they are found.
func TestUnpackRefuses(t *testing.T) {
	huge := codec.Number(math.MaxUint64)
	cases := []struct {
		s    string
		want api.Errno
	}{
		{"", api.ErrShort},
		{"\x80", api.ErrShort},
		{"\x80\x00", api.ErrForm},
		{strings.Repeat("\xff", 10), api.ErrForm},
		{"\x01", api.ErrShort},
		{"\x01\x80", api.ErrShort},
		{"\x01\x80\x00", api.ErrForm},
		{"\x01\x03a", api.ErrShort},
		{"\x01\x03ab", api.ErrShort},
		{"\x02\x01a", api.ErrShort},
		{"\x02\x01a\x80\x00", api.ErrForm},
		{"\x02\x03a\x80\x00", api.ErrShort},
		{"\x02\x05a\x80\x00", api.ErrShort},
		{"\x00a", api.ErrForm},
		{"\x00\x00", api.ErrForm},
		{"\x01\x01ab", api.ErrForm},
		{huge, api.ErrShort},
		{huge + "\x01a", api.ErrShort},
		{huge + "\x80\x00", api.ErrForm},
		{"\x01" + huge, api.ErrShort},
		{"\x01" + huge + "text", api.ErrShort},
		{"\x01" + codec.Number(1<<63) + "text", api.ErrShort},
		{"\x01" + codec.Number(1<<63-1) + "text", api.ErrShort},
		{"\x01" + codec.Number(1<<32) + "text", api.ErrShort},
	}
	for _, c := range cases {
		l, e := codec.Unpack(c.s)
		expectError(t, "Unpack", c.s, e, c.want)
		if len(l) != 0 {
			t.Errorf("Unpack(% x): %q beside an error", c.s, l)
		}
	}
}

// unpackByDefinition reads as the document says.
func unpackByDefinition(s string) ([]string, api.Errno) {
	many, at, e := codec.ReadNumber(s)
	if e != api.OK {
		return nil, e
	}
	var l []string
	for ; many > 0; many-- {
		length, size, e := codec.ReadNumber(s[at:])
		if e != api.OK {
			return nil, e
		}
		at += size
		if length > uint64(len(s)-at) {
			return nil, api.ErrShort
		}
		l = append(l, s[at:at+int(length)])
		at += int(length)
	}
	if at < len(s) {
		return nil, api.ErrForm
	}
	return l, api.OK
}

// P1.6: all short strings of certain bytes. If there is a list whose Pack is the string, it is the result.
func TestUnpackFollowsTheDefinition(t *testing.T) {
	for s := range sample.Texts(sample.Singles("\x00\x01\x02\x03\x80\xffa"), 6) {
		l, e := codec.Unpack(s)
		wantL, wantE := unpackByDefinition(s)
		if !slices.Equal(l, wantL) || e != wantE {
			t.Errorf("Unpack(% x): %q, %d, want %q, %d", s, l, e, wantL, wantE)
		}
		if e == api.OK && codec.Pack(l) != s {
			t.Errorf("Unpack(% x): %q, which has another Pack", s, l)
		}
	}
}

// P1.7: Unpack undoes Pack; and no beginning of a Pack, nor a Pack with bytes behind it, passes for one.
func TestUnpackUndoesPack(t *testing.T) {
	q := sample.Sequence(32)
	for range 300 {
		l := texts(&q, 150, 150)
		given := slices.Clone(l)
		s := codec.Pack(l)
		got, e := codec.Unpack(s)
		if !slices.Equal(got, given) || !slices.Equal(l, given) || e != api.OK {
			t.Fatalf("Unpack(Pack(%q)): %q, %d", given, got, e)
		}
		_, e = codec.Unpack(s[:q.Below(len(s))])
		expectError(t, "Unpack of a beginning of Pack", s, e, api.ErrShort)
		_, e = codec.Unpack(s + q.Bytes(1+q.Below(3)))
		expectError(t, "Unpack of more than Pack", s, e, api.ErrForm)
	}
}

// P1.7: no Pack is the beginning of another one. Sorted, a string that is a beginning stands directly before one that it begins.
func TestNoPackBeginsAnother(t *testing.T) {
	q := sample.Sequence(33)
	packs := []string{codec.Pack(nil)}
	for s := range sample.Texts(sample.Singles("\x00\x01\x02"), 4) {
		packs = append(packs, codec.Pack([]string{s}), codec.Pack([]string{s, ""}), codec.Pack([]string{"", s}))
	}
	for range 2000 {
		packs = append(packs, codec.Pack(texts(&q, 4, 4)))
	}
	slices.Sort(packs)
	packs = slices.Compact(packs)
	for i := range len(packs) - 1 {
		if strings.HasPrefix(packs[i+1], packs[i]) {
			t.Errorf("Pack % x begins % x", packs[i], packs[i+1])
		}
	}
}

// P1.8: lists with bytes that the document gives, or that follow from its words.
func TestIntsOfKnownLists(t *testing.T) {
	cases := []struct {
		l    []int
		want string
	}{
		{nil, "\x00"},
		{[]int{}, "\x00"},
		{[]int{0}, "\x01\x00"},
		{[]int{1, -1, 64}, "\x03\x02\x01\x80\x01"},
		{[]int{math.MaxInt}, "\x01\xfe\xff\xff\xff\xff\xff\xff\xff\xff\x01"},
		{[]int{math.MinInt}, "\x01\xff\xff\xff\xff\xff\xff\xff\xff\xff\x01"},
		{make([]int, 128), "\x80\x01" + strings.Repeat("\x00", 128)},
	}
	for _, c := range cases {
		if got := codec.Ints(c.l); got != c.want {
			t.Errorf("Ints(%v): % x, want % x", c.l, got, c.want)
		}
		l, e := codec.ReadInts(c.want)
		if !slices.Equal(l, c.l) || e != api.OK {
			t.Errorf("ReadInts(% x): %v, %d, want %v", c.want, l, e, c.l)
		}
	}
}

// P1.8: the parts in their order, for any lists; P1.7: ReadInts undoes Ints.
func TestReadIntsUndoesInts(t *testing.T) {
	q := sample.Sequence(34)
	for range 500 {
		l := integers(&q, 200)
		given := slices.Clone(l)
		want := codec.Number(uint64(len(l)))
		for _, n := range l {
			want += codec.Number(codec.Signed(n))
		}
		s := codec.Ints(l)
		if s != want {
			t.Fatalf("Ints(%v): % x, want % x", l, s, want)
		}
		got, e := codec.ReadInts(s)
		if !slices.Equal(got, given) || !slices.Equal(l, given) || e != api.OK {
			t.Fatalf("ReadInts(Ints(%v)): %v, %d", given, got, e)
		}
		_, e = codec.ReadInts(s[:q.Below(len(s))])
		expectError(t, "ReadInts of a beginning of Ints", s, e, api.ErrShort)
		_, e = codec.ReadInts(s + q.Bytes(1+q.Below(3)))
		expectError(t, "ReadInts of more than Ints", s, e, api.ErrForm)
	}
}

// P1.8: the errors in the order in which they are found.
func TestReadIntsRefuses(t *testing.T) {
	huge := codec.Number(math.MaxUint64)
	cases := []struct {
		s    string
		want api.Errno
	}{
		{"", api.ErrShort},
		{"\x80", api.ErrShort},
		{"\x80\x00", api.ErrForm},
		{"\x01", api.ErrShort},
		{"\x02\x04", api.ErrShort},
		{"\x02\x04\x80", api.ErrShort},
		{"\x02\x04\x80\x00", api.ErrForm},
		{"\x02\x80\x00\x80", api.ErrForm},
		{"\x01" + strings.Repeat("\xff", 9), api.ErrShort},
		{"\x01" + strings.Repeat("\xff", 10), api.ErrForm},
		{"\x01" + strings.Repeat("\xff", 9) + "\x02", api.ErrForm},
		{"\x01\x04\x00", api.ErrForm},
		{"\x00\x00", api.ErrForm},
		{huge, api.ErrShort},
		{huge + "\x01", api.ErrShort},
		{huge + "\x01\x80\x00", api.ErrForm},
	}
	for _, c := range cases {
		l, e := codec.ReadInts(c.s)
		expectError(t, "ReadInts", c.s, e, c.want)
		if len(l) != 0 {
			t.Errorf("ReadInts(% x): %v beside an error", c.s, l)
		}
	}
}

// readIntsByDefinition reads as the document says.
func readIntsByDefinition(s string) ([]int, api.Errno) {
	many, at, e := codec.ReadNumber(s)
	if e != api.OK {
		return nil, e
	}
	var l []int
	for ; many > 0; many-- {
		n, size, e := codec.ReadNumber(s[at:])
		if e != api.OK {
			return nil, e
		}
		at += size
		l = append(l, codec.Unsigned(n))
	}
	if at < len(s) {
		return nil, api.ErrForm
	}
	return l, api.OK
}

// P1.8: all short strings of certain bytes. If there is a list whose Ints is the string, it is the result.
func TestReadIntsFollowsTheDefinition(t *testing.T) {
	for s := range sample.Texts(sample.Singles("\x00\x01\x02\x03\x7f\x80\xff"), 6) {
		l, e := codec.ReadInts(s)
		wantL, wantE := readIntsByDefinition(s)
		if !slices.Equal(l, wantL) || e != wantE {
			t.Errorf("ReadInts(% x): %v, %d, want %v, %d", s, l, e, wantL, wantE)
		}
		if e == api.OK && codec.Ints(l) != s {
			t.Errorf("ReadInts(% x): %v, which has other Ints", s, l)
		}
	}
}

// R3, R4: results are new memory; what is done to one changes no other one.
func TestResultsAreNewMemory(t *testing.T) {
	texts, numbers := codec.Pack([]string{"a", "b"}), codec.Ints([]int{1, 2})
	firstTexts, _ := codec.Unpack(texts)
	firstNumbers, _ := codec.ReadInts(numbers)
	firstTexts[0], firstNumbers[0] = "other", 7
	secondTexts, _ := codec.Unpack(texts)
	secondNumbers, _ := codec.ReadInts(numbers)
	if !slices.Equal(secondTexts, []string{"a", "b"}) || !slices.Equal(secondNumbers, []int{1, 2}) {
		t.Errorf("after a change of the first results: %q, %v", secondTexts, secondNumbers)
	}
}

// P1: every function of the package terminates without a panic, for arbitrary arguments.
func TestArbitraryArguments(t *testing.T) {
	q := sample.Sequence(35)
	for range 20000 {
		s := q.Bytes(q.Below(40))
		codec.Sum(s)
		codec.ReadNumber(s)
		codec.Unpack(s)
		codec.ReadInts(s)
		codec.Unpack(codec.Number(q.Number()) + s)
		codec.ReadInts(codec.Number(q.Number()) + s)
		codec.Unpack("\x01" + codec.Number(q.Number()) + s)
		n := q.Number()
		codec.Number(n)
		codec.Signed(int(n))
		codec.Unsigned(n)
		codec.Pack(texts(&q, 3, 3))
		codec.Ints(integers(&q, 3))
	}
}
