// Package tree says which trees may be, for the layers that are handed one without its text.
package tree

import (
	"slices"

	"minuet/api"
	"minuet/parse"
)

// May: may a tree be one of a text that is as long as its root says?
func May(t api.Tree) bool {
	at := slices.IndexFunc(t.Nodes, func(n api.Node) bool { return n.Id == t.Root })
	return at >= 0 && parse.May(t, t.Nodes[at].To)
}
