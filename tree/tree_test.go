package tree_test

import (
	"testing"

	"minuet/api"
	"minuet/parse"
	"minuet/tree"
)

// Trees of texts may be; layer 11 says what else may, of the size that is the root's.
func TestTakes(t *testing.T) {
	for _, s := range []string{"", " ", "1", "[1,2]", `{"a":`, "#"} {
		x, _ := parse.Parse(s)
		if !tree.May(x) {
			t.Errorf("%q: %v may not be", s, x)
		}
	}
	for _, size := range []int{0, 1, api.MaxDoc + 1, api.MaxLen} {
		x := api.Tree{Root: 7, Next: 9, Nodes: []api.Node{{Id: 5, Kind: api.NodeWord}, {Id: 7, To: size, Kids: []int{5}}}}
		if !tree.May(x) {
			t.Errorf("%v may not be", x)
		}
	}
}

func TestRefuses(t *testing.T) {
	for name, turn := range map[string]func(x *api.Tree){
		"nothing":         func(x *api.Tree) { *x = api.Tree{} },
		"no nodes":        func(x *api.Tree) { x.Nodes = nil },
		"no root":         func(x *api.Tree) { x.Root = 6 },
		"no root, above":  func(x *api.Tree) { x.Root = 8 },
		"no root, below":  func(x *api.Tree) { x.Root = -1 },
		"another root":    func(x *api.Tree) { x.Root = 5 },
		"the root's kind": func(x *api.Tree) { x.Nodes[1].Kind = api.NodeArray },
		"the root's From": func(x *api.Tree) { x.Nodes[1].From = 1 },
		"below 0":         func(x *api.Tree) { x.Nodes[1].To = -1 },
		"above MaxLen":    func(x *api.Tree) { x.Nodes[1].To = api.MaxLen + 1 },
		"a child behind":  func(x *api.Tree) { x.Nodes[0].To = 4 },
		"nobody's child":  func(x *api.Tree) { x.Nodes[1].Kids = nil },
		"Next":            func(x *api.Tree) { x.Next = 7 },
		"the root twice":  func(x *api.Tree) { x.Nodes = append(x.Nodes, x.Nodes[1]) },
	} {
		x := api.Tree{Root: 7, Next: 9, Nodes: []api.Node{{Id: 5, Kind: api.NodeWord}, {Id: 7, To: 3, Kids: []int{5}}}}
		turn(&x)
		if tree.May(x) {
			t.Errorf("%s: %v may be", name, x)
		}
	}
}
