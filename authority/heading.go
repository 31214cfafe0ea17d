package authority

import "cmp"

// heading is a heading with its lineage.
type heading struct {
	number int
	name   string
	into   *heading // into which it is merged, or nil
	splits []split
}

// split says to which heading records belong whose title has a word.
type split struct {
	word string
	to   *heading
}

func compareHeadings(h, g *heading) int { return cmp.Compare(h.number, g.number) }

// reaches says whether h leads to another heading, directly or over others, or is that heading.
func (h *heading) reaches(other *heading) bool {
	seen := map[*heading]bool{}
	var search func(h *heading) bool
	search = func(h *heading) bool {
		if h == other {
			return true
		}
		if seen[h] {
			return false
		}
		seen[h] = true
		if h.into != nil {
			return search(h.into)
		}
		for _, s := range h.splits {
			if search(s.to) {
				return true
			}
		}
		return false
	}
	return search(h)
}

// resolve returns the last of the headings to which h leads for a title with these words. As no heading reaches itself by way of others, there is one.
func (h *heading) resolve(words map[string]bool) *heading {
	for next := h.next(words); next != nil; next = h.next(words) {
		h = next
	}
	return h
}

// next returns the heading to which h leads for a title with these words; nil, if there is none.
func (h *heading) next(words map[string]bool) *heading {
	if h.into != nil {
		return h.into
	}
	for _, s := range h.splits {
		if words[s.word] {
			return s.to
		}
	}
	return nil
}

// wordsOf returns the words of a list as a set.
func wordsOf(list []string) map[string]bool {
	words := map[string]bool{}
	for _, word := range list {
		words[word] = true
	}
	return words
}
