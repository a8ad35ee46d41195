package delta

import (
	"slices"

	"minuet/api"
)

// sorts are steps, those of a kind at its number: nodes come id by id, but the steps are told sort by sort.
type sorts [api.StepSpan + 1][]api.Step

// leave notes a node that is in the old tree alone.
func (s *sorts) leave(n api.Node) {
	s.add(api.Step{Kind: api.StepDrop, Id: n.Id})
}

// come notes a node that is in the new tree alone.
func (s *sorts) come(n api.Node) {
	s.add(api.Step{Kind: api.StepCreate, Id: n.Id, Node: n.Kind})
	if len(n.Kids) > 0 {
		s.kids(n)
	}
	s.span(n)
}

// stay notes what turned of a node that is in both trees.
func (s *sorts) stay(was api.Node, now api.Node) {
	if !slices.Equal(was.Kids, now.Kids) {
		s.kids(now)
	}
	if was.From != now.From || was.To != now.To {
		s.span(now)
	}
}

// kids notes a node's children.
func (s *sorts) kids(n api.Node) {
	// Not slices.Clone: of an empty list it is that list.
	s.add(api.Step{Kind: api.StepKids, Id: n.Id, Kids: append([]int(nil), n.Kids...)})
}

// span notes a node's span.
func (s *sorts) span(n api.Node) {
	s.add(api.Step{Kind: api.StepSpan, Id: n.Id, From: n.From, To: n.To})
}

// add puts a step behind those of its kind.
func (s *sorts) add(step api.Step) {
	s[step.Kind] = append(s[step.Kind], step)
}
