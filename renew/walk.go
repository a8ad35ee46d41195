package renew

import (
	"slices"

	"minuet/api"
	"minuet/ends"
)

// none is the id of a new node for which none is found yet.
const none = -1

// side is a text and its tree's nodes as layer 11 tells them: a node's id is its place there.
type side struct {
	text  string
	nodes []api.Node
}

// bytes tells a node's bytes.
func (s side) bytes(n api.Node) string {
	return s.text[n.From:n.To]
}

// walk goes over an old tree and a new one at once, and finds the new one's ids.
type walk struct {
	was side
	now side
	old []api.Node // the old nodes as they were handed in: their ids by place
	ids []int      // the new nodes' ids by place
}

// newWalk makes a walk that has found nothing yet.
func newWalk(was side, now side, old []api.Node) *walk {
	return &walk{was: was, now: now, old: old, ids: slices.Repeat([]int{none}, len(now.nodes))}
}

// meet gives a new node an old one's id, and goes on below them.
func (w *walk) meet(was int, now int) {
	w.ids[now] = w.old[was].Id
	a, b := w.was.nodes[was].Kids, w.now.nodes[now].Kids
	_, behind := ends.Alike(len(a), len(b), func(i int, j int) bool { return w.like(a[i], b[j]) })
	// What is like ahead needs no way of its own: it is of one kind, and so is, place by place, all below it.
	for i := range min(len(a), len(b)) - behind {
		if w.was.nodes[a[i]].Kind == w.now.nodes[b[i]].Kind {
			w.meet(a[i], b[i])
		}
	}
	for i := range behind {
		w.meet(a[len(a)-1-i], b[len(b)-1-i])
	}
}

// like: are an old node and a new one like, and all below them, wherever they stand?
func (w *walk) like(was int, now int) bool {
	a, b := w.was.nodes[was], w.now.nodes[now]
	if a.Kind != b.Kind || w.was.bytes(a) != w.now.bytes(b) || len(a.Kids) != len(b.Kids) {
		return false
	}
	for i, kid := range a.Kids {
		far := w.was.nodes[kid].From - a.From
		if w.now.nodes[b.Kids[i]].From-b.From != far || !w.like(kid, b.Kids[i]) {
			return false
		}
	}
	return true
}

// number gives the nodes for which no id was found those from next on, in their row; it tells the next one then.
func (w *walk) number(next int) int {
	for i, id := range w.ids {
		if id == none {
			w.ids[i] = next
			next++
		}
	}
	return next
}
