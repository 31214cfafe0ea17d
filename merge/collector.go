package merge

import (
	"strings"

	"pinakes/api"
	"pinakes/copies"
)

// policy says which of the statements with a tag are taken.
type policy int

const (
	policyFirst policy = iota
	policyAll
	policyLocal
)

func policyOf(tag string) policy {
	switch tag {
	case "010", "040", "100", "110", "245":
		return policyFirst
	}
	switch {
	case strings.HasPrefix(tag, "00"):
		return policyFirst
	case strings.HasPrefix(tag, "9"):
		return policyLocal
	default:
		return policyAll
	}
}

// waysOfPolicies returns for each policy how a collector takes the statements with a tag.
func waysOfPolicies() [3]func(*collector, []statement) {
	return [...]func(*collector, []statement){
		policyFirst: (*collector).takeFirst,
		policyAll:   (*collector).takeUnlike,
		policyLocal: (*collector).takeEach,
	}
}

// collector gathers the fields of a merged record, tag by tag.
type collector struct {
	merged api.Merged
}

func (c *collector) take(s statement) {
	c.merged.Record.Fields = append(c.merged.Record.Fields, copies.Field(s.field))
	c.merged.From = append(c.merged.From, s.from)
}

// takeFirst takes what the first record says that says anything. (A record has only one version that counts.)
func (c *collector) takeFirst(said []statement) {
	for _, s := range said {
		if s.from == said[0].from {
			c.take(s)
		}
	}
}

// takeUnlike takes the statements that are not alike one in front of them.
func (c *collector) takeUnlike(said []statement) {
	known := map[likeness]bool{}
	for _, s := range said {
		if l := likenessOf(s.field); !known[l] {
			known[l] = true
			c.take(s)
		}
	}
}

func (c *collector) takeEach(said []statement) {
	for _, s := range said {
		c.take(s)
	}
}
