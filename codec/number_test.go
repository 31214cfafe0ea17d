package codec_test

import (
	"math"
	"math/big"
	"strings"
	"testing"

	"pinakes/api"
	"pinakes/codec"
	"pinakes/sample"
)

// interestingNumbers: those beside which the number of groups changes, the greatest ones, and others of any magnitude.
func interestingNumbers() []uint64 {
	l := []uint64{0, 1, 2, 300, math.MaxInt64, 1 << 63, math.MaxUint64 - 1, math.MaxUint64}
	for shift := 7; shift < 64; shift += 7 {
		n := uint64(1) << shift
		l = append(l, n-1, n, n+1)
	}
	q := sample.Sequence(21)
	for range 2000 {
		l = append(l, q.Number())
	}
	return l
}

// valueOf adds up the groups of s without a bound.
func valueOf(s string) *big.Int {
	value := new(big.Int)
	for i := len(s) - 1; i >= 0; i-- {
		value.Mul(value, big.NewInt(128))
		value.Add(value, big.NewInt(int64(s[i]%128)))
	}
	return value
}

// P1.2: numbers with bytes that the document gives, or that follow from its words.
func TestNumberOfKnownValues(t *testing.T) {
	cases := []struct {
		n    uint64
		want string
	}{
		{0, "\x00"},
		{1, "\x01"},
		{127, "\x7f"},
		{128, "\x80\x01"},
		{300, "\xac\x02"},
		{16383, "\xff\x7f"},
		{16384, "\x80\x80\x01"},
		{1 << 63, "\x80\x80\x80\x80\x80\x80\x80\x80\x80\x01"},
		{math.MaxUint64, "\xff\xff\xff\xff\xff\xff\xff\xff\xff\x01"},
	}
	for _, c := range cases {
		if got := codec.Number(c.n); got != c.want {
			t.Errorf("Number(%d): % x, want % x", c.n, got, c.want)
		}
	}
}

// P1.2: the groups add up to the number, all bytes but the last are 128 or greater, and no group could be left out.
func TestNumberIsTheShortestFormOfItsGroups(t *testing.T) {
	for _, n := range interestingNumbers() {
		s := codec.Number(n)
		if len(s) == 0 || valueOf(s).Cmp(new(big.Int).SetUint64(n)) != 0 {
			t.Errorf("Number(%d): % x has another value", n, s)
			continue
		}
		last := len(s) - 1
		for i := range last {
			if s[i] < 128 {
				t.Errorf("Number(%d): % x has a last byte too early", n, s)
			}
		}
		if s[last] >= 128 || last > 0 && s[last] == 0 {
			t.Errorf("Number(%d): % x has a wrong last byte", n, s)
		}
	}
}

// P1.3, P1.7: whatever follows a number, it is read.
func TestReadNumberUndoesNumber(t *testing.T) {
	for _, n := range interestingNumbers() {
		s := codec.Number(n)
		for _, rest := range []string{"", "\x00", "\x80", "\xff\xff\xff\xff\xff\xff\xff\xff\xff\xff\xff", "text"} {
			got, size, e := codec.ReadNumber(s + rest)
			if got != n || size != len(s) || e != api.OK {
				t.Errorf("ReadNumber(% x): %d, %d, %d, want %d, %d, OK", s+rest, got, size, e, n, len(s))
			}
		}
	}
}

// P1.3: the errors that the document mentions.
func TestReadNumberRefuses(t *testing.T) {
	cases := []struct {
		s    string
		want api.Errno
	}{
		{"", api.ErrShort},
		{"\xac", api.ErrShort},
		{"\x80\x80", api.ErrShort},
		{strings.Repeat("\x80", 9), api.ErrShort},
		{strings.Repeat("\xff", 9), api.ErrShort},
		{strings.Repeat("\x80", 10), api.ErrForm},
		{strings.Repeat("\xff", 10), api.ErrForm},
		{strings.Repeat("\xff", 11), api.ErrForm},
		{"\x80\x00", api.ErrForm},
		{"\x80\x00\x80", api.ErrForm},
		{"\xff\x80\x00", api.ErrForm},
		{strings.Repeat("\x80", 9) + "\x00", api.ErrForm},
		{strings.Repeat("\xff", 9) + "\x02", api.ErrForm},
		{strings.Repeat("\xff", 9) + "\x7f", api.ErrForm},
		{strings.Repeat("\xff", 10) + "\x01", api.ErrForm},
		{strings.Repeat("\x80", 100000), api.ErrForm},
	}
	for _, c := range cases {
		n, size, e := codec.ReadNumber(c.s)
		expectError(t, "ReadNumber", c.s, e, c.want)
		if n != 0 || size != 0 {
			t.Errorf("ReadNumber(% x): %d, %d beside an error", c.s[:min(len(c.s), 20)], n, size)
		}
	}
}

// readByDefinition tries, for each length, whether s begins with the Number of the value that it would have.
func readByDefinition(s string) (uint64, int, api.Errno) {
	for size := 1; size <= len(s); size++ {
		value := valueOf(s[:size])
		if value.IsUint64() && codec.Number(value.Uint64()) == s[:size] {
			return value.Uint64(), size, api.OK
		}
	}
	for i := range len(s) {
		if s[i] < 128 {
			return 0, 0, api.ErrForm
		}
	}
	if len(s) < 10 {
		return 0, 0, api.ErrShort
	}
	return 0, 0, api.ErrForm
}

// P1.3: all short strings of certain bytes, also behind so many bytes that they stand at the bound of 64 bits.
func TestReadNumberFollowsTheDefinition(t *testing.T) {
	check := func(s string) {
		n, size, e := codec.ReadNumber(s)
		wantN, wantSize, wantE := readByDefinition(s)
		if n != wantN || size != wantSize || e != wantE {
			t.Errorf("ReadNumber(% x): %d, %d, %d, want %d, %d, %d", s, n, size, e, wantN, wantSize, wantE)
		}
	}
	for b := range 256 {
		check(string([]byte{byte(b)}))
		for c := range 256 {
			check(string([]byte{byte(b), byte(c)}))
		}
	}
	for before := range 11 {
		for s := range sample.Texts(sample.Singles("\x00\x01\x02\x40\x7f\x80\x81\xff"), 3) {
			check(strings.Repeat("\x80", before) + s)
			check(strings.Repeat("\xd5", before) + s)
			check(strings.Repeat("\xff", before) + s)
		}
	}
}

// P1.4: integers around 0, and those at the bounds.
func TestSignedOfKnownValues(t *testing.T) {
	cases := []struct {
		n    int
		want uint64
	}{
		{0, 0}, {-1, 1}, {1, 2}, {-2, 3}, {2, 4}, {-3, 5}, {64, 128}, {-65, 129},
		{math.MaxInt, math.MaxUint64 - 1}, {math.MinInt, math.MaxUint64},
		{math.MaxInt - 1, math.MaxUint64 - 3}, {math.MinInt + 1, math.MaxUint64 - 2},
	}
	for _, c := range cases {
		if got := codec.Signed(c.n); got != c.want {
			t.Errorf("Signed(%d): %d, want %d", c.n, got, c.want)
		}
		if got := codec.Unsigned(c.want); got != c.n {
			t.Errorf("Unsigned(%d): %d, want %d", c.want, got, c.n)
		}
	}
}

// P1.4: the formulas, calculated without a bound.
func TestSignedAndUnsignedFollowTheFormulas(t *testing.T) {
	one, two := big.NewInt(1), big.NewInt(2)
	for _, x := range interestingNumbers() {
		n := int(x)
		signed := new(big.Int).Mul(two, big.NewInt(int64(n)))
		if n < 0 {
			signed.Neg(signed).Sub(signed, one)
		}
		if got := codec.Signed(n); new(big.Int).SetUint64(got).Cmp(signed) != 0 {
			t.Errorf("Signed(%d): %d, want %v", n, got, signed)
		}
		unsigned := new(big.Int).SetUint64(x)
		if x%2 == 1 {
			unsigned.Add(unsigned, one).Neg(unsigned)
		}
		unsigned.Quo(unsigned, two)
		if got := codec.Unsigned(x); big.NewInt(int64(got)).Cmp(unsigned) != 0 {
			t.Errorf("Unsigned(%d): %d, want %v", x, got, unsigned)
		}
	}
}

// P1.7: Unsigned undoes Signed, and the reverse.
func TestSignedAndUnsignedUndoEachOther(t *testing.T) {
	for _, x := range interestingNumbers() {
		for _, n := range []int{int(x), -int(x), ^int(x)} {
			if codec.Unsigned(codec.Signed(n)) != n {
				t.Errorf("Unsigned(Signed(%d)): %d", n, codec.Unsigned(codec.Signed(n)))
			}
		}
		if codec.Signed(codec.Unsigned(x)) != x {
			t.Errorf("Signed(Unsigned(%d)): %d", x, codec.Signed(codec.Unsigned(x)))
		}
	}
}
