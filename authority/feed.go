package authority

import (
	"cmp"
	"strings"

	"pinakes/api"
	"pinakes/keys"
)

// isRight says whether a feed may belong to a file.
func isRight(x api.Feed) bool {
	if x.Agency < 1 || x.Number < 1 || x.Heading < 1 {
		return false
	}
	switch x.Kind {
	case api.FeedNew, api.FeedName, api.FeedSee:
		return keys.Fold(x.Text) != ""
	case api.FeedMerge:
		return x.To >= 1
	case api.FeedSplit:
		return x.To >= 1 && len(keys.Words(x.Text)) == 1
	default:
		return false
	}
}

func compareFeeds(x, y api.Feed) int {
	return cmp.Or(cmp.Compare(x.Number, y.Number), cmp.Compare(x.Agency, y.Agency))
}

func copyOfFeed(x api.Feed) api.Feed {
	x.Text = strings.Clone(x.Text)
	return x
}
