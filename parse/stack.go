package parse

import (
	"minuet/api"
)

// What stood last in a list, strays and lacks aside.
const (
	stoodNothing = iota
	stoodElement
	stoodComma
)

// list is a node that is open: its end is not known yet, and its Kids grow.
type list struct {
	api.Node
	last int
}

// stack holds the lists that are open, each within the one ahead of it, and by id all nodes that have begun: so each of
// these stands ahead of its children.
type stack struct {
	lists []list
	nodes []api.Node
}

// top is the innermost list; it may be elsewhere when another one was opened.
func (s *stack) top() *list {
	return &s.lists[len(s.lists)-1]
}

// add begins a node with the next id, as the last child of the innermost list.
func (s *stack) add(kind int, from int, to int) api.Node {
	n := api.Node{Id: len(s.nodes), Kind: kind, From: from, To: to}
	s.nodes = append(s.nodes, n)
	if len(s.lists) > 0 {
		l := s.top()
		l.Kids = append(l.Kids, n.Id)
	}
	return n
}

// open begins a node that holds others, and makes it the innermost list.
func (s *stack) open(kind int, from int) {
	n := s.add(kind, from, from)
	s.lists = append(s.lists, list{Node: n, last: stoodNothing})
}

// shut ends the innermost list at a place.
func (s *stack) shut(to int) {
	n := s.top().Node
	n.To = to
	s.nodes[n.Id] = n
	s.lists = s.lists[:len(s.lists)-1]
}
