package marc_test

import (
	"strconv"
	"strings"
	"unicode/utf8"

	"pinakes/api"
)

// This file says what the chapter defines, in its words and without regard to speed.

func isLetter(b byte) bool { return strings.IndexByte("abcdefghijklmnopqrstuvwxyz", b) >= 0 }

func areDigits(s string) bool { return strings.Trim(s, "0123456789") == "" }

func isTag(s string) bool { return len(s) == 3 && areDigits(s) && s != "000" }

func isText(s string) bool {
	for _, b := range []byte(s) {
		if b < 32 {
			return false
		}
	}
	return utf8.ValidString(s)
}

func isSign(b byte) bool { return b >= 33 && b <= 126 }

func isIndicator(b byte) bool { return b >= 32 && b <= 126 }

func isRight(f api.Field) bool {
	if strings.HasPrefix(f.Tag, "00") {
		return isText(f.Data) && f.Ind == "" && len(f.Subs) == 0
	}
	for _, s := range f.Subs {
		if !isSign(s.Code) || !isText(s.Text) {
			return false
		}
	}
	return f.Data == "" && len(f.Ind) == 2 && isIndicator(f.Ind[0]) && isIndicator(f.Ind[1]) && len(f.Subs) > 0
}

func bytesOf(f api.Field) string {
	s := f.Data + f.Ind
	for _, sub := range f.Subs {
		s += "\x1f" + string([]byte{sub.Code}) + sub.Text
	}
	return s + "\x1e"
}

func writeByDefinition(r api.Record) (string, api.Errno) {
	if !isLetter(r.Kind) || !isLetter(r.Level) {
		return "", api.ErrLeader
	}
	for _, f := range r.Fields {
		if !isTag(f.Tag) {
			return "", api.ErrEntry
		}
		if !isRight(f) {
			return "", api.ErrField
		}
	}
	directory, data := "", ""
	for _, f := range r.Fields {
		bytes := bytesOf(f)
		if len(bytes) > 9999 {
			return "", api.ErrMany
		}
		directory += entryOf(f.Tag, len(bytes), len(data))
		data += bytes
	}
	if len(r.Fields) > 999 || 24+len(directory)+1+len(data)+1 > 99999 {
		return "", api.ErrMany
	}
	return changed(changed(around(directory, data), 6, string([]byte{r.Kind})), 7, string([]byte{r.Level})), api.OK
}

// fieldOf returns the right field with this tag that has these bytes, if there is one.
func fieldOf(tag, bytes string) (api.Field, bool) {
	inner, ended := strings.CutSuffix(bytes, "\x1e")
	f := api.Field{Tag: tag}
	if strings.HasPrefix(tag, "00") {
		f.Data = inner
	} else {
		parts := strings.Split(inner, "\x1f")
		f.Ind = parts[0]
		for _, part := range parts[1:] {
			if part == "" {
				return f, false
			}
			f.Subs = append(f.Subs, api.Sub{Code: part[0], Text: part[1:]})
		}
	}
	return f, ended && isRight(f)
}

// begins says whether s is the beginning of the bytes of a right field with this tag: whether one of these endings makes it the bytes of one.
func begins(tag, s string) bool {
	for _, character := range []string{"", "\x80", "\x80\x80", "\x80\x80\x80", "\xa0\x80", "\x90\x80\x80"} {
		for _, end := range []string{"", "\x1e", "a\x1e", "\x1fa\x1e", "0\x1fa\x1e", "00\x1fa\x1e"} {
			if _, right := fieldOf(tag, s+character+end); right {
				return true
			}
		}
	}
	return false
}

// wrongByte returns the first byte at which bytes fail to be those of a right field.
func wrongByte(tag, bytes string) int {
	for i := range len(bytes) {
		if !begins(tag, bytes[:i+1]) {
			return i
		}
	}
	return len(bytes) - 1
}

func numberOf(s string) int {
	n, err := strconv.Atoi(s)
	if err != nil {
		panic(err)
	}
	return n
}

func parseByDefinition(s string) (api.Record, int, api.Errno) {
	if at, e := leaderError(s); e != api.OK {
		return api.Record{}, at, e
	}
	n, b := len(s), numberOf(s[12:17])
	if s[n-1] != 29 {
		return api.Record{}, n - 1, api.ErrField
	}
	length, sum := n-2-b+1, 0
	for at := 24; at < b-1; at += 12 {
		if !isTag(s[at:at+3]) || !areDigits(s[at+3:at+12]) {
			return api.Record{}, at, api.ErrEntry
		}
		m, k := numberOf(s[at+3:at+7]), numberOf(s[at+7:at+12])
		sum += m
		if m == 0 || k+m > length || sum > length {
			return api.Record{}, at, api.ErrEntry
		}
	}
	r := api.Record{Kind: s[6], Level: s[7]}
	for at := 24; at < b-1; at += 12 {
		m, k := numberOf(s[at+3:at+7]), numberOf(s[at+7:at+12])
		tag, bytes := s[at:at+3], s[b+k:b+k+m]
		f, right := fieldOf(tag, bytes)
		if !right {
			return api.Record{}, b + k + wrongByte(tag, bytes), api.ErrField
		}
		r.Fields = append(r.Fields, f)
	}
	return r, 0, api.OK
}

// leaderError returns the first error of the steps 1 to 4.
func leaderError(s string) (int, api.Errno) {
	n := len(s)
	switch {
	case n < 24:
		return n, api.ErrShort
	case !areDigits(s[:5]):
		return 0, api.ErrLeader
	case numberOf(s[:5]) > n:
		return n, api.ErrShort
	case numberOf(s[:5]) < n:
		return 0, api.ErrLeader
	case !isLetter(s[6]):
		return 6, api.ErrLeader
	case !isLetter(s[7]):
		return 7, api.ErrLeader
	case s[9] != 'a':
		return 9, api.ErrLeader
	case s[10:12] != "22":
		return 10, api.ErrLeader
	case s[20:24] != "4500":
		return 20, api.ErrLeader
	case !areDigits(s[12:17]):
		return 12, api.ErrLeader
	}
	b := numberOf(s[12:17])
	if b < 25 || b >= n || (b-25)%12 != 0 || s[b-1] != 30 {
		return 12, api.ErrLeader
	}
	if (b-25)/12 > 999 {
		return 12, api.ErrMany
	}
	return 0, api.OK
}

func splitByDefinition(s string) ([]string, int, api.Errno) {
	var l []string
	at := 0
	for at < len(s) {
		left := s[at:]
		if len(left) < 5 {
			return l, at, api.ErrShort
		}
		if !areDigits(left[:5]) || numberOf(left[:5]) < 26 {
			return l, at, api.ErrLeader
		}
		n := numberOf(left[:5])
		if n > len(left) {
			return l, at, api.ErrShort
		}
		l = append(l, left[:n])
		at += n
	}
	return l, 0, api.OK
}
