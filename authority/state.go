package authority

import (
	"slices"

	"pinakes/api"
	"pinakes/keys"
)

// state is what results from feeds in order.
type state struct {
	headings map[int]*heading
	named    map[string][]*heading // those with a name, by its folded text, ordered by their numbers
	alias    map[string]*heading   // the least one with another name, by its folded text
	refused  []api.Feed
}

func newState() *state {
	return &state{headings: map[int]*heading{}, named: map[string][]*heading{}, alias: map[string]*heading{}}
}

// effects returns for each kind of feeds what it does to a state. Each says whether it was done; otherwise the feed is refused.
func effects() map[int]func(*state, api.Feed) bool {
	return map[int]func(*state, api.Feed) bool{
		api.FeedNew:   (*state).create,
		api.FeedName:  (*state).rename,
		api.FeedSee:   (*state).see,
		api.FeedMerge: (*state).merge,
		api.FeedSplit: (*state).split,
	}
}

// carryOut carries out feeds that are right, and follow all those that were carried out before.
func (s *state) carryOut(feeds []api.Feed) {
	effects := effects()
	for _, x := range feeds {
		if !effects[x.Kind](s, x) {
			s.refused = append(s.refused, x)
		}
	}
}

func (s *state) create(x api.Feed) bool {
	if s.headings[x.Heading] != nil {
		return false
	}
	h := &heading{number: x.Heading}
	s.headings[x.Heading] = h
	s.name(h, x.Text)
	return true
}

func (s *state) rename(x api.Feed) bool {
	h := s.unmerged(x.Heading)
	if h == nil {
		return false
	}
	s.unname(h)
	s.name(h, x.Text)
	return true
}

func (s *state) see(x api.Feed) bool {
	h := s.unmerged(x.Heading)
	if h == nil {
		return false
	}
	s.addAlias(h, keys.Fold(x.Text))
	return true
}

func (s *state) merge(x api.Feed) bool {
	h, to, may := s.mayLead(x)
	if may {
		h.into = to
	}
	return may
}

func (s *state) split(x api.Feed) bool {
	h, to, may := s.mayLead(x)
	if may {
		h.splits = append(h.splits, split{keys.Fold(x.Text), to})
	}
	return may
}

// mayLead returns the two headings of a feed, and whether the first one may lead to the other one.
func (s *state) mayLead(x api.Feed) (h, to *heading, may bool) {
	h, to = s.unmerged(x.Heading), s.headings[x.To]
	return h, to, h != nil && to != nil && !to.reaches(h)
}

// unmerged returns a heading that is not merged; nil, if there is none with this number.
func (s *state) unmerged(number int) *heading {
	h := s.headings[number]
	if h == nil || h.into != nil {
		return nil
	}
	return h
}

// name gives a name to a heading that has none.
func (s *state) name(h *heading, text string) {
	folded := keys.Fold(text)
	same := s.named[folded]
	place, _ := slices.BinarySearchFunc(same, h, compareHeadings)
	s.named[folded] = slices.Insert(same, place, h)
	h.name = text
}

// unname makes the name of a heading one of its other names.
func (s *state) unname(h *heading) {
	folded := keys.Fold(h.name)
	same := s.named[folded]
	place, _ := slices.BinarySearchFunc(same, h, compareHeadings)
	s.named[folded] = slices.Delete(same, place, place+1)
	s.addAlias(h, folded)
}

// addAlias adds another name. Names are never lost, so that it is enough to know the least heading.
func (s *state) addAlias(h *heading, folded string) {
	known := s.alias[folded]
	if known == nil || h.number < known.number {
		s.alias[folded] = h
	}
}

// find returns the heading that a text names, and whether there is one. No name folds to nothing.
func (s *state) find(text string) (*heading, bool) {
	folded := keys.Fold(text)
	if same := s.named[folded]; len(same) > 0 {
		return same[0], true
	}
	h, there := s.alias[folded]
	return h, there
}
