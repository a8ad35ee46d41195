package parse

import (
	"minuet/api"
)

// May: may a tree be one of a text of a size, by its form?
func May(t api.Tree, size int) bool {
	if size < 0 || size > api.MaxLen || !numbered(t) {
		return false
	}
	// Nodes leave the map when they are found below the root: so none is found twice, and none may be left.
	left := byId(t.Nodes)
	root, there := left[t.Root]
	if !there || root.Kind != api.NodeRoot || root.From != 0 || root.To != size {
		return false
	}
	delete(left, t.Root)
	for found := []api.Node{root}; len(found) > 0; {
		last := len(found) - 1
		kids, fit := takeKids(left, found[last])
		if !fit {
			return false
		}
		found = append(found[:last], kids...)
	}
	return len(left) == 0
}

// numbered: has a tree some nodes, not too many, with ids that rise from 0 on and stay below Next?
func numbered(t api.Tree) bool {
	if len(t.Nodes) == 0 || len(t.Nodes) > api.MaxNodes || t.Next > api.MaxIds {
		return false
	}
	last := -1
	for _, n := range t.Nodes {
		if n.Id <= last {
			return false
		}
		last = n.Id
	}
	return last < t.Next
}

// byId tells nodes by their ids.
func byId(nodes []api.Node) map[int]api.Node {
	m := make(map[int]api.Node, len(nodes))
	for _, n := range nodes {
		m[n.Id] = n
	}
	return m
}

// takeKids takes a node's children out of those that are left, if all are there and fit one behind the other.
func takeKids(left map[int]api.Node, n api.Node) ([]api.Node, bool) {
	if len(n.Kids) > 0 && !holds(n.Kind) {
		return nil, false
	}
	var kids []api.Node
	from := n.From
	for _, id := range n.Kids {
		kid, found := left[id]
		if !found || !below(kid.Kind) || kid.From < from || kid.To < kid.From || kid.To > n.To {
			return nil, false
		}
		delete(left, id)
		kids = append(kids, kid)
		from = kid.To
	}
	return kids, true
}

// holds: may a node of a kind have children?
func holds(kind int) bool {
	return kind != api.NodeText && kind != api.NodeNumber && kind != api.NodeWord
}

// below: is it a kind, and one of a node below the root?
func below(kind int) bool {
	return api.NodeRoot < kind && kind <= api.NodeError
}
