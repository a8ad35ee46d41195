package patch

import (
	"maps"
	"slices"

	"minuet/api"
)

// draft is a tree among its steps: only behind all of them must it be one that may be.
type draft struct {
	root  int
	next  int
	nodes map[int]api.Node // by id; their Kids are the lists that were handed in, so they are only read
}

// newDraft makes a draft of a tree that may be.
func newDraft(t api.Tree) *draft {
	d := &draft{root: t.Root, next: t.Next, nodes: make(map[int]api.Node, len(t.Nodes))}
	for _, n := range t.Nodes {
		d.nodes[n.Id] = n
	}
	return d
}

// take does a step that may be, if the node of its id is there, or, for one that puts it, is not.
func (d *draft) take(s api.Step) bool {
	n, there := d.nodes[s.Id]
	if there == (s.Kind == api.StepCreate) {
		return false
	}
	switch s.Kind {
	case api.StepDrop:
		delete(d.nodes, s.Id)
		return true
	case api.StepCreate:
		n = api.Node{Id: s.Id, Kind: s.Node}
		d.next = max(d.next, s.Id+1)
	case api.StepKids:
		n.Kids = s.Kids
	case api.StepSpan:
		n.From, n.To = s.From, s.To
	}
	d.nodes[s.Id] = n
	return true
}

// tree tells the draft as a tree, with the lists that were handed in.
func (d *draft) tree() api.Tree {
	nodes := slices.SortedFunc(maps.Values(d.nodes), func(a api.Node, b api.Node) int { return a.Id - b.Id })
	return api.Tree{Root: d.root, Next: d.next, Nodes: nodes}
}

// owned gives each node of a tree a list of its own. It comes behind the asking whether the tree may be: only then are
// the lists no longer, all together, than there are nodes.
func owned(t api.Tree) api.Tree {
	for i, n := range t.Nodes {
		// Not slices.Clone: of an empty list it is that list.
		t.Nodes[i].Kids = append([]int(nil), n.Kids...)
	}
	return t
}
