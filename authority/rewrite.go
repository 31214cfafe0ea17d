package authority

import (
	"slices"
	"strconv"
	"strings"

	"pinakes/api"
	"pinakes/copies"
	"pinakes/fields"
	"pinakes/keys"
)

// Rewrite returns a record whose headings are those that they have become.
func (f *File) Rewrite(r api.Record) api.Record {
	r = copies.Record(r)
	if f == nil {
		return r
	}
	s := f.current()
	words := wordsOf(keys.Words(fields.Text(fields.First(r, "245"), "ab")))
	for i, f := range r.Fields {
		if !hasHeading(f.Tag) {
			continue
		}
		if h, there := s.headingOf(f); there {
			r.Fields[i].Subs = withHeading(f.Subs, h.resolve(words))
		}
	}
	return r
}

// hasHeading says whether fields with a tag refer to headings.
func hasHeading(tag string) bool {
	switch tag {
	case "100", "110", "600", "650", "700":
		return true
	default:
		return false
	}
}

// headingOf returns the heading to which a field refers, by its number or by its name, and whether there is one.
func (s *state) headingOf(f api.Field) (*heading, bool) {
	if place := firstWith('0', f.Subs); place >= 0 {
		if h, there := s.numbered(f.Subs[place].Text); there {
			return h, true
		}
	}
	if place := firstWith('a', f.Subs); place >= 0 {
		return s.find(f.Subs[place].Text)
	}
	return nil, false
}

// numbered returns the heading whose number a text is, and whether there is one.
func (s *state) numbered(text string) (*heading, bool) {
	number, err := strconv.Atoi(text)
	if err != nil || strconv.Itoa(number) != text {
		return nil, false
	}
	h, there := s.headings[number]
	return h, there
}

// firstWith returns the place of the first subfield with a code; -1, if there is none.
func firstWith(code byte, subs []api.Sub) int {
	return slices.IndexFunc(subs, func(s api.Sub) bool { return s.Code == code })
}

// withHeading returns subfields that refer to a heading by its name and by its number.
func withHeading(subs []api.Sub, h *heading) []api.Sub {
	name := api.Sub{Code: 'a', Text: strings.Clone(h.name)}
	number := api.Sub{Code: '0', Text: strconv.Itoa(h.number)}
	if place := firstWith(name.Code, subs); place >= 0 {
		subs[place] = name
	} else {
		subs = slices.Insert(subs, 0, name)
	}
	if place := firstWith(number.Code, subs); place >= 0 {
		subs[place] = number
	} else {
		subs = append(subs, number)
	}
	return subs
}
