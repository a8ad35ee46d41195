package step_test

import (
	"math"
	"slices"
	"testing"

	"minuet/api"
	"minuet/step"
)

// P15.1: which steps may be.

// fives are as many ids.
func fives(n int) []int {
	return slices.Repeat([]int{5}, n)
}

func TestTakes(t *testing.T) {
	const last = api.MaxIds - 1
	all := []api.Step{
		{}, // drops 0
		{Kind: api.StepDrop, Id: last},
		{Kind: api.StepDrop, Id: 3, Kids: []int{}},
		{Kind: api.StepCreate, Id: last, Node: api.NodeError, Kids: []int{}},
		{Kind: api.StepKids},
		{Kind: api.StepKids, Id: last, Kids: []int{}},
		{Kind: api.StepKids, Id: 3, Kids: []int{0, last, 7, 7, 3}},
		{Kind: api.StepKids, Id: 3, Kids: fives(api.MaxNodes)},
		{Kind: api.StepSpan},
		{Kind: api.StepSpan, Id: last, From: 0, To: api.MaxLen},
		{Kind: api.StepSpan, Id: 3, From: api.MaxLen, To: api.MaxLen, Kids: []int{}},
		{Kind: api.StepSpan, Id: 3, From: 7, To: 7},
		{Kind: api.StepSpan, Id: 3, From: 7, To: 8},
	}
	for kind := api.NodeRoot; kind <= api.NodeError; kind++ {
		all = append(all, api.Step{Kind: api.StepCreate, Node: kind})
	}
	for _, s := range all {
		if !step.May(s) {
			t.Errorf("P15.1: %.200v may not be", s)
		}
	}
}

// sorts are a step of each sort, with nothing that it names at zero, where that is not its only way.
func sorts() []api.Step {
	return []api.Step{
		{Kind: api.StepDrop, Id: 3},
		{Kind: api.StepCreate, Id: 3, Node: api.NodeWord},
		{Kind: api.StepKids, Id: 3, Kids: []int{4, 5}},
		{Kind: api.StepSpan, Id: 3, From: 2, To: 9},
	}
}

// wrong: may a step not be?
func wrong(t *testing.T, name string, s api.Step) {
	t.Helper()
	if step.May(s) {
		t.Errorf("P15.1: %s: %.200v may be", name, s)
	}
}

func TestRefusesWhatEachSortNames(t *testing.T) {
	for _, s := range sorts() {
		if !step.May(s) {
			t.Fatalf("the test is wrong: %v", s)
		}
		for _, id := range []int{-1, api.MaxIds, math.MinInt, math.MaxInt} {
			s.Id = id
			wrong(t, "Id", s)
		}
		s.Id = 3
		for _, kind := range []int{-1, api.StepSpan + 1, math.MinInt, math.MaxInt} {
			s.Kind = kind
			wrong(t, "Kind", s)
		}
	}
	for _, node := range []int{-1, api.NodeError + 1, math.MinInt, math.MaxInt} {
		wrong(t, "Node", api.Step{Kind: api.StepCreate, Id: 3, Node: node})
	}
	for _, kid := range []int{-1, api.MaxIds, math.MinInt, math.MaxInt} {
		for at := range 4 {
			wrong(t, "a child", api.Step{Kind: api.StepKids, Id: 3, Kids: slices.Insert(fives(3), at, kid)})
		}
		wrong(t, "the last child", api.Step{Kind: api.StepKids, Id: 3, Kids: append(fives(api.MaxNodes-1), kid)})
		wrong(t, "one child alone", api.Step{Kind: api.StepKids, Id: 3, Kids: []int{kid}})
	}
	for _, n := range []int{api.MaxNodes + 1, 1000000} {
		wrong(t, "too many", api.Step{Kind: api.StepKids, Id: 3, Kids: fives(n)})
	}
	for _, span := range [][2]int{
		{-1, 5}, {-1, -1}, {-2, -1}, {6, 5}, {1, 0}, {0, -1}, {0, api.MaxLen + 1}, {api.MaxLen + 1, api.MaxLen + 1}, {api.MaxLen + 1, api.MaxLen},
		{math.MinInt, 5}, {math.MinInt, math.MaxInt}, {math.MaxInt, math.MinInt}, {math.MaxInt, 5}, {math.MaxInt, math.MaxInt}, {math.MinInt, math.MinInt}, {5, math.MinInt}, {5, math.MaxInt},
	} {
		wrong(t, "the span", api.Step{Kind: api.StepSpan, Id: 3, From: span[0], To: span[1]})
	}
}

// What a sort does not name must be zero, though for another sort it may be so.
func TestRefusesWhatASortDoesNotName(t *testing.T) {
	type turn func(s *api.Step, by int)
	node := func(s *api.Step, by int) { s.Node = by }
	from := func(s *api.Step, by int) { s.From = by }
	to := func(s *api.Step, by int) { s.To = by }
	both := func(s *api.Step, by int) { s.From, s.To = by, by }
	kids := func(s *api.Step, by int) { s.Kids = []int{by} }
	for kind, others := range [][]turn{{node, from, to, both, kids}, {from, to, both, kids}, {node, from, to, both}, {node, kids}} {
		for _, other := range others {
			for _, by := range []int{1, 3, -1, api.NodeError, api.MaxLen, api.MaxIds - 1, math.MinInt, math.MaxInt} {
				s := sorts()[kind]
				other(&s, by)
				wrong(t, "another sort's", s)
				s = api.Step{Kind: kind}
				other(&s, by)
				wrong(t, "another sort's, beside zeros", s)
			}
		}
	}
	wrong(t, "children of 0", api.Step{Kind: api.StepDrop, Kids: []int{0}})
	wrong(t, "children of 0", api.Step{Kind: api.StepCreate, Kids: []int{0}})
	wrong(t, "children of 0", api.Step{Kind: api.StepSpan, Kids: []int{0}})
}

// What is handed in stays as it was, its spare room too.
func TestLeavesItsStep(t *testing.T) {
	for _, kids := range [][]int{{}, {1, 2}, {1, -1}} {
		room := append(slices.Clone(kids), 77, 77)
		for kind := -1; kind <= api.StepSpan+1; kind++ {
			s := api.Step{Kind: kind, Id: 1, Kids: room[:len(kids)]}
			step.May(s)
			if !slices.Equal(room, append(slices.Clone(kids), 77, 77)) {
				t.Errorf("R4: %v", room)
			}
		}
	}
}

func TestMost(t *testing.T) {
	if step.Most != 8192 {
		t.Errorf("P15.1: %d", step.Most)
	}
}
