package merge_test

import (
	"slices"
	"testing"

	"pinakes/api"
	"pinakes/sample"
)

// expectAlike checks two fields with a tag of the policy all: in one version and in two, in both orders, and with others around them.
func expectAlike(t *testing.T, f, g api.Field, want bool) {
	t.Helper()
	if alikeByDefinition(f, g) != want {
		t.Errorf("by the definition, %s and %s are alike: %v", shown(f), shown(g), !want)
	}
	other := plain(f.Tag, "something else")
	for _, p := range [][2]api.Field{{f, g}, {g, f}} {
		within := version(1, 1, 1, p[0], other, p[1], other, p[1])
		first, second := version(1, 1, 1, p[0]), version(1, 2, 1, other, p[1], p[0])
		if want {
			expectMerged(t, []api.Version{within}, within, by(1, 1, p[0], other))
			expectMerged(t, []api.Version{second, first}, first, by(1, 1, p[0]), by(1, 2, other))
		} else {
			expectMerged(t, []api.Version{within}, within, by(1, 1, p[0], other, p[1]))
			expectMerged(t, []api.Version{second, first}, first, by(1, 1, p[0]), by(1, 2, other, p[1]))
		}
	}
}

// P7.2: fields that differ in texts which fold to the same, and to others.
func TestFoldedTexts(t *testing.T) {
	for _, same := range [][]string{
		{"Sea stories", "SEA STORIES.", "sea  stories", " [Sea] stories /", "séa stóries", "se\u0301a-stories"},
		{"Łódź", "lodz", "LODZ!"}, {"Straße", "STRASSE", "strasse"}, {"Ærø", "aero"},
		{"Σίσυφος", "ΣΙΣΥΦΟΣ", "σισυφοσ"}, {"Ёлка", "елка", "ЕЛКА"},
		{"", " ", "...", "日", "\u0301", "\xff", "\x00", "\u00a0"},
		{"a b", "a\x00b", "a\xffb", "a日b", "a / b"},
	} {
		for _, s := range same {
			for _, u := range same {
				expectAlike(t, field("650", "  ", "a"+s), field("650", "  ", "a"+u), true)
				expectAlike(t, field("", "  ", "aX", "b"+s, "c"), field("", "  ", "ax", "b"+u, "c."), true)
			}
		}
	}
	different := []string{"sea", "see", "s ea", "seas", "se", "", "1", "01", "10", "1 0", "i", "l", "o", "0", "е", "ё\u0301 a", "α", "a", "ae", "a e", "th", "t"}
	for i, s := range different {
		for _, u := range different[:i] {
			expectAlike(t, field("650", "  ", "a"+s), field("650", "  ", "a"+u), false)
			expectAlike(t, field("650", "  ", "bX", "a"+s), field("650", "  ", "bX", "a"+u), false)
			expectAlike(t, field("650", "  ", "a"+s, "bX"), field("650", "  ", "a"+u, "bX"), false)
		}
	}
}

// P7.2: fields that differ in the codes, the number or the order of their subfields.
func TestSubfields(t *testing.T) {
	expectAlike(t, field("650", "  ", "aX"), field("650", "  ", "bX"), false)
	expectAlike(t, field("650", "  ", "aX"), field("650", "  ", "AX"), false)
	expectAlike(t, field("650", "  ", "aX", "aX"), field("650", "  ", "aX"), false)
	expectAlike(t, field("650", "  ", "aX", "a"), field("650", "  ", "aX"), false)
	expectAlike(t, field("650", "  ", "a"), field("650", "  "), false)
	expectAlike(t, field("650", "  "), api.Field{Tag: "650", Ind: "  ", Subs: []api.Sub{}}, true)
	expectAlike(t, field("650", "  ", "aX", "bY"), field("650", "  ", "bY", "aX"), false)
	expectAlike(t, field("650", "  ", "aX", "bY"), field("650", "  ", "bX", "aY"), false)
	expectAlike(t, field("650", "  ", "aX", "bY"), field("650", "  ", "aY", "bX"), false)
	expectAlike(t, field("650", "  ", "aX", "aY"), field("650", "  ", "aY", "aX"), false)
	expectAlike(t, field("650", "  ", "aX Y"), field("650", "  ", "aX", "aY"), false)
	expectAlike(t, field("650", "  ", "aX", "aY"), field("650", "  ", "aXY", "a"), false)
	expectAlike(t, field("650", "  ", "aX", "a"), field("650", "  ", "a", "aX"), false)
	expectAlike(t, field("650", "  ", "aX Y", "aZ"), field("650", "  ", "aX", "aY Z"), false)
	expectAlike(t, field("650", "  ", "aX", "bY"), field("650", "  ", "aX bY"), false)
	expectAlike(t, field("650", "  ", "aX\x00", "aY"), field("650", "  ", "aX", "a\x00Y"), true)
	for n := range 256 {
		f, g := field("650", "  ", "aX", "aY"), field("650", "  ", "aX", "aY")
		f.Subs[1].Code, g.Subs[1].Code = byte(n), byte(n)
		expectAlike(t, f, g, true)
		g.Subs[1].Code = byte(n + 1)
		expectAlike(t, f, g, false)
		for bit := range 8 {
			g.Subs[1].Code = byte(n ^ 1<<bit)
			expectAlike(t, f, g, false)
		}
	}
}

// P7.2: a letter at the end of a text is another one than at the beginning of the next.
func TestEndsOfTexts(t *testing.T) {
	for _, c := range "0123456789abcdefghijklmnopqrstuvwxyzαωая" {
		s := string(c)
		expectAlike(t, field("650", "  ", "a"+s, "a"), field("650", "  ", "a", "a"+s), false)
		expectAlike(t, field("650", "  ", "ax"+s, "ax"), field("650", "  ", "ax", "a"+s+"x"), false)
		expectAlike(t, field("650", "  ", "a"+s+s, "a", "a"+s), field("650", "  ", "a"+s, "a"+s, "a"+s), false)
	}
}

// P7.2: Data must be the same, byte by byte; it is not folded.
func TestData(t *testing.T) {
	list := []string{"", "x", "X", " x", "x ", "x.", "é", "e\u0301", "\x00", "\xff", "日"}
	for _, subs := range [][]string{nil, {"aX"}} {
		for i, data := range list {
			f, g := field("650", "  ", subs...), field("650", "10", subs...)
			f.Data, g.Data = data, data
			expectAlike(t, f, g, true)
			for _, other := range list[:i] {
				g.Data = other
				expectAlike(t, f, g, false)
			}
		}
	}
	expectAlike(t, control("650", "x"), field("650", "", "ax"), false)
}

// P7.2: indicators play no part.
func TestIndicators(t *testing.T) {
	list := []string{"  ", "10", "01", "", "1", "123", "é", "\xff\x00", "ax"}
	for _, ind := range list {
		for _, other := range list {
			expectAlike(t, field("650", ind, "aX"), field("650", other, "aX"), true)
			expectAlike(t, field("650", ind, "aX"), field("650", other, "aY"), false)
		}
	}
}

// P7.2: fields that differ in their tags alone are not alike, also if the tags have the same digits.
func TestTags(t *testing.T) {
	tags := []string{"", " 650", "0", "01", "65", "650", "6500", "651", "a", "é"} // in order
	for i, tag := range tags {
		for _, other := range tags[i+1:] {
			v, w := version(1, 1, 1, plain(other, "X"), plain(tag, "X")), version(2, 1, 1, plain(tag, "x"), plain(other, "X."))
			expectMerged(t, []api.Version{v, w}, v, by(1, 1, plain(tag, "X"), plain(other, "X")))
		}
	}
	v := version(1, 1, 1, field("6", "  ", "50"), field("65", "  ", "0"), control("65", "0"), control("650", ""))
	expectMerged(t, []api.Version{v, v}, v, by(1, 1, v.Record.Fields...))
}

// P7.2: all fields of few short parts, each with each.
func TestAllShortFields(t *testing.T) {
	subs := [][]api.Sub{nil}
	for _, s := range []string{"a", "b"} {
		for text := range sample.Texts([]string{"x", " ", "Y"}, 2) {
			subs = append(subs, []api.Sub{{Code: s[0], Text: text}})
		}
	}
	for _, s := range slices.Clone(subs[1:]) {
		for _, u := range []api.Sub{{Code: 'a'}, {Code: 'a', Text: "x"}, {Code: 'b', Text: "y"}} {
			subs = append(subs, []api.Sub{s[0], u})
		}
	}
	var fields []api.Field
	for _, data := range []string{"", "a", "x"} {
		for _, list := range subs {
			fields = append(fields, api.Field{Tag: "650", Data: data, Subs: list})
		}
	}
	for i, f := range fields {
		for _, g := range fields[:i+1] {
			expectAlike(t, f, g, alikeByDefinition(f, g))
		}
	}
	expectDefined(t, []api.Version{version(1, 1, 1, fields...)})
}
