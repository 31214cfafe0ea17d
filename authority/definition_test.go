package authority_test

import (
	"regexp"
	"slices"
	"strconv"
	"strings"

	"pinakes/api"
	"pinakes/keys"
)

// This file says what the chapter defines, in its words and without regard to speed.

func isRightByDefinition(x api.Feed) bool {
	words := strings.Fields(keys.Fold(x.Text))
	hasTo, hasName := x.Kind == 4 || x.Kind == 5, x.Kind == 1 || x.Kind == 2 || x.Kind == 3
	return x.Agency >= 1 && x.Number >= 1 && x.Heading >= 1 && (hasTo || hasName) &&
		(!hasTo || x.To >= 1) && (!hasName || len(words) > 0) && (x.Kind != 5 || len(words) == 1)
}

func isBefore(x, y api.Feed) bool {
	return x.Number < y.Number || x.Number == y.Number && x.Agency < y.Agency
}

// inOrder returns feeds in their order.
func inOrder(feeds []api.Feed) []api.Feed {
	var ordered []api.Feed
	for _, x := range feeds {
		place := 0
		for place < len(ordered) && isBefore(ordered[place], x) {
			place++
		}
		ordered = slices.Insert(ordered, place, x)
	}
	return ordered
}

func takeByDefinition(feeds []api.Feed, x api.Feed) api.Errno {
	if !isRightByDefinition(x) {
		return api.ErrArg
	}
	for _, y := range feeds {
		if x == y {
			return api.ErrTwice
		}
		if x.Number == y.Number && x.Agency == y.Agency {
			return api.ErrOld
		}
	}
	if len(feeds) >= 5000 {
		return api.ErrMany
	}
	return api.OK
}

type definedSplit struct {
	word string
	to   int
}

type definedHeading struct {
	number     int
	name       string
	otherNames []string
	splits     []definedSplit
	merged     bool
	into       int
}

// definedState is a state: its headings, ordered by their numbers, and the refused feeds.
type definedState struct {
	headings []*definedHeading
	refused  []api.Feed
}

func stateByDefinition(feeds []api.Feed) definedState {
	var s definedState
	for _, x := range inOrder(feeds) {
		if s.refuses(x) {
			s.refused = append(s.refused, x)
			continue
		}
		h := s.heading(x.Heading)
		switch x.Kind {
		case api.FeedNew:
			place := 0
			for place < len(s.headings) && s.headings[place].number < x.Heading {
				place++
			}
			s.headings = slices.Insert(s.headings, place, &definedHeading{number: x.Heading, name: x.Text})
		case api.FeedName:
			h.otherNames = append(h.otherNames, h.name)
			h.name = x.Text
		case api.FeedSee:
			h.otherNames = append(h.otherNames, x.Text)
		case api.FeedMerge:
			h.merged, h.into = true, x.To
		case api.FeedSplit:
			h.splits = append(h.splits, definedSplit{keys.Fold(x.Text), x.To})
		}
	}
	return s
}

func (s definedState) heading(number int) *definedHeading {
	for _, h := range s.headings {
		if h.number == number {
			return h
		}
	}
	return nil
}

func (s definedState) refuses(x api.Feed) bool {
	h := s.heading(x.Heading)
	if x.Kind == api.FeedNew {
		return h != nil
	}
	if h == nil || h.merged {
		return true
	}
	if x.Kind == api.FeedName || x.Kind == api.FeedSee {
		return false
	}
	return s.heading(x.To) == nil || slices.Contains(s.reached(x.To), x.Heading)
}

// reached returns the headings that one reaches.
func (s definedState) reached(number int) []int {
	reached := []int{number}
	for i := 0; i < len(reached); i++ {
		h := s.heading(reached[i])
		if h.merged {
			reached = append(reached, h.into)
			continue
		}
		for _, split := range h.splits {
			if !slices.Contains(reached, split.to) {
				reached = append(reached, split.to)
			}
		}
	}
	return reached
}

func is(text, name string) bool { return keys.Fold(text) == keys.Fold(name) }

func (s definedState) find(text string) (int, bool) {
	if keys.Fold(text) == "" {
		return 0, false
	}
	for _, h := range s.headings {
		if is(text, h.name) {
			return h.number, true
		}
	}
	for _, h := range s.headings {
		for _, name := range h.otherNames {
			if is(text, name) {
				return h.number, true
			}
		}
	}
	return 0, false
}

func (s definedState) resolve(number int, title string) (int, bool) {
	h := s.heading(number)
	if h == nil {
		return 0, false
	}
	if h.merged {
		return s.resolve(h.into, title)
	}
	for _, split := range h.splits {
		if slices.Contains(keys.Words(title), split.word) {
			return s.resolve(split.to, title)
		}
	}
	return number, true
}

func (s definedState) name(number int) (string, bool) {
	h := s.heading(number)
	if h == nil {
		return "", false
	}
	return h.name, true
}

var tagsWithHeadings = regexp.MustCompile(`^(100|110|600|650|700)$`)

func (s definedState) rewrite(r api.Record) api.Record {
	title, titles := "", 0
	for _, f := range r.Fields {
		if f.Tag != "245" || titles > 0 {
			continue
		}
		titles++
		for _, sub := range f.Subs {
			if sub.Code == 'a' || sub.Code == 'b' {
				title += " " + sub.Text
			}
		}
	}
	rewritten := api.Record{Kind: r.Kind, Level: r.Level}
	for _, f := range r.Fields {
		f.Subs = slices.Clone(f.Subs)
		if number, there := s.headingOf(f); there && tagsWithHeadings.MatchString(f.Tag) {
			last, _ := s.resolve(number, title)
			f.Subs = replaced(f.Subs, api.Sub{Code: 'a', Text: s.heading(last).name}, true)
			f.Subs = replaced(f.Subs, api.Sub{Code: '0', Text: strconv.Itoa(last)}, false)
		}
		rewritten.Fields = append(rewritten.Fields, f)
	}
	return rewritten
}

func (s definedState) headingOf(f api.Field) (int, bool) {
	if text, there := firstText(f, '0'); there {
		for _, h := range s.headings {
			if strconv.Itoa(h.number) == text {
				return h.number, true
			}
		}
	}
	if text, there := firstText(f, 'a'); there {
		return s.find(text)
	}
	return 0, false
}

func firstText(f api.Field, code byte) (string, bool) {
	for _, sub := range f.Subs {
		if sub.Code == code {
			return sub.Text, true
		}
	}
	return "", false
}

// replaced returns subfields with another one in the place of the first with its code, or else in front or behind.
func replaced(subs []api.Sub, sub api.Sub, inFront bool) []api.Sub {
	for i := range subs {
		if subs[i].Code == sub.Code {
			return append(append(slices.Clone(subs[:i]), sub), subs[i+1:]...)
		}
	}
	if inFront {
		return append([]api.Sub{sub}, subs...)
	}
	return append(subs, sub)
}
