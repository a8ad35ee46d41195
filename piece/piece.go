// Package piece holds what the layers that walk over edits share: how long pieces are, edits in normal form that grow
// piece by piece, and readers that take pieces in parts.
package piece

import (
	"strings"

	"minuet/api"
)

// Size tells how many bytes a raw piece keeps, puts or cuts.
func Size(c api.Comp) int {
	return c.N + len(c.Text)
}

// Follows: may a piece of one kind stand right behind one of another kind, in normal form?
func Follows(ahead int, kind int) bool {
	return ahead != kind && (ahead != api.CompCut || kind != api.CompPut)
}

// Add makes of an edit in normal form and one more piece one in normal form. It writes into all, which its caller
// gives up.
func Add(all []api.Comp, c api.Comp) []api.Comp {
	last := len(all) - 1
	switch {
	case Size(c) == 0:
		return all
	case last >= 0 && all[last].Kind == c.Kind:
		all[last].N += c.N
		all[last].Text += c.Text
		return all
	case last >= 0 && !Follows(all[last].Kind, c.Kind):
		// A put behind a cut: ahead of that cut stands no other one, so this goes no deeper.
		cut := all[last]
		return append(Add(all[:last], c), cut)
	}
	// The text is copied, so that the answer holds none of what was handed in.
	c.Text = strings.Clone(c.Text)
	return append(all, c)
}
