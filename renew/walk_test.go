package renew

import (
	"testing"

	"minuet/api"
)

// Nodes that are like, and nodes that are so but for one thing: made by hand, for layer 11 tells not all of these of the
// same bytes at one depth.
func TestLike(t *testing.T) {
	made := func() side {
		return side{"x[1, 1]y", []api.Node{
			{Id: 0, Kind: api.NodeRoot, From: 0, To: 8, Kids: []int{1}},
			{Id: 1, Kind: api.NodeArray, From: 1, To: 7, Kids: []int{2, 3}},
			{Id: 2, Kind: api.NodeNumber, From: 2, To: 3},
			{Id: 3, Kind: api.NodeNumber, From: 5, To: 6},
		}}
	}
	moved := made()
	moved.text = "xyz[1, 1]"
	for i := 1; i < len(moved.nodes); i++ {
		moved.nodes[i].From += 2
		moved.nodes[i].To += 2
	}
	for name, row := range map[string]struct {
		turn func(s *side)
		want bool
	}{
		"the same":             {func(s *side) {}, true},
		"elsewhere":            {func(s *side) { *s = moved }, true},
		"other bytes around":   {func(s *side) { s.text = "-[1, 1]-" }, true},
		"another root":         {func(s *side) { s.nodes[0].Kind = api.NodeError }, true},
		"another kind":         {func(s *side) { s.nodes[1].Kind = api.NodeError }, false},
		"another kind below":   {func(s *side) { s.nodes[3].Kind = api.NodeError }, false},
		"other bytes":          {func(s *side) { s.text = "x[1, 2]y" }, false},
		"other bytes between":  {func(s *side) { s.text = "x[1,\n1]y" }, false},
		"shorter":              {func(s *side) { s.nodes[1].To = 6 }, false},
		"one child less":       {func(s *side) { s.nodes[1].Kids = []int{2} }, false},
		"one child more":       {func(s *side) { s.nodes[1].Kids = []int{2, 2, 3} }, false},
		"no children":          {func(s *side) { s.nodes[1].Kids = nil }, false},
		"one below a child":    {func(s *side) { s.nodes[2].Kids = []int{3} }, false},
		"first child behind":   {func(s *side) { s.nodes[1].Kids = []int{3, 3} }, false},
		"last child ahead":     {func(s *side) { s.nodes[1].Kids = []int{2, 2} }, false},
		"a child that's wider": {func(s *side) { s.nodes[2].To = 4 }, false},
	} {
		now := made()
		row.turn(&now)
		for _, w := range []*walk{newWalk(made(), now, nil), newWalk(now, made(), nil)} {
			if got := w.like(1, 1); got != row.want {
				t.Errorf("P13.1: %s: %t", name, got)
			}
		}
	}
}
