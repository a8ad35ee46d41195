// Package step says which steps from tree to tree may be, for the layers that take them: see DOC.md, chapter 15.
package step

import (
	"minuet/api"
)

// Most is how many steps at most there may be in one row: as many as lead from any tree to any other one.
const Most = 4 * api.MaxNodes

// May: may a step be, whatever tree it is taken upon?
func May(s api.Step) bool {
	// What its kind names is asked, and taken out: what is left must be zero.
	fits := false
	switch s.Kind {
	case api.StepDrop:
		fits = true
	case api.StepCreate:
		fits, s.Node = kind(s.Node), 0
	case api.StepKids:
		fits, s.Kids = kids(s.Kids), nil
	case api.StepSpan:
		fits, s.From, s.To = span(s.From, s.To), 0, 0
	}
	return fits && id(s.Id) && bare(s)
}

// bare: has a step nothing beside its kind and its id?
func bare(s api.Step) bool {
	return s.Node == 0 && s.From == 0 && s.To == 0 && len(s.Kids) == 0
}

// id: may a number be a node's id?
func id(n int) bool {
	return 0 <= n && n < api.MaxIds
}

// kind: may a number be a node's kind?
func kind(n int) bool {
	return api.NodeRoot <= n && n <= api.NodeError
}

// kids: may these be a node's children?
func kids(ids []int) bool {
	if len(ids) > api.MaxNodes {
		return false
	}
	for _, kid := range ids {
		if !id(kid) {
			return false
		}
	}
	return true
}

// span: may a node go from a place to another one?
func span(from int, to int) bool {
	return 0 <= from && from <= to && to <= api.MaxLen
}
