package parse_test

import (
	"math"
	"math/rand"
	"slices"
	"testing"

	"minuet/api"
	"minuet/parse"
)

// P11.2.

// plainMay: may a tree be, by the words of the chapter, each asked by itself?
func plainMay(t api.Tree, size int) bool {
	n := len(t.Nodes)
	if n < 1 || n > api.MaxNodes || t.Next > api.MaxIds || size < 0 || size > api.MaxLen {
		return false
	}
	roots := 0
	for i, x := range t.Nodes {
		if x.Id < 0 || x.Id >= t.Next || i > 0 && x.Id <= t.Nodes[i-1].Id || x.From > x.To || x.Kind < api.NodeRoot || x.Kind > api.NodeError {
			return false
		}
		if x.Kind == api.NodeRoot {
			roots++
			if x.Id != t.Root || x.From != 0 || x.To != size {
				return false
			}
		}
		leaf := x.Kind == api.NodeText || x.Kind == api.NodeNumber || x.Kind == api.NodeWord
		if leaf && len(x.Kids) > 0 || !plainKids(t, x) {
			return false
		}
	}
	return roots == 1 && plainParents(t)
}

// plainKids: are a node's children nodes, within its span, one behind the other?
func plainKids(t api.Tree, x api.Node) bool {
	for i, k := range x.Kids {
		at := place(t, k)
		if at < 0 || t.Nodes[at].From < x.From || t.Nodes[at].To > x.To {
			return false
		}
		if i > 0 && t.Nodes[at].From < t.Nodes[place(t, x.Kids[i-1])].To {
			return false
		}
	}
	return true
}

// plainParents: has each node but the root one parent, and leads the way up from each to the root?
func plainParents(t api.Tree) bool {
	up := map[int][]int{}
	for _, x := range t.Nodes {
		for _, k := range x.Kids {
			up[k] = append(up[k], x.Id)
		}
	}
	for _, x := range t.Nodes {
		if len(up[x.Id]) != 1 && x.Id != t.Root || x.Id == t.Root && len(up[x.Id]) != 0 {
			return false
		}
	}
	for _, x := range t.Nodes {
		id := x.Id
		for range t.Nodes {
			if id != t.Root {
				id = up[id][0]
			}
		}
		if id != t.Root {
			return false
		}
	}
	return true
}

// place is where a node stands in the list, or -1.
func place(t api.Tree, id int) int {
	return slices.IndexFunc(t.Nodes, func(x api.Node) bool { return x.Id == id })
}

// node is a node of a tree by its id.
func node(t *api.Tree, id int) *api.Node {
	return &t.Nodes[place(*t, id)]
}

// sample is a tree with ids that are not one behind the other, a node of each kind, and children that touch.
func sample() api.Tree {
	return api.Tree{Root: 6, Next: 50, Nodes: []api.Node{
		{Id: 0, Kind: api.NodeNumber, From: 9, To: 12},
		{Id: 2, Kind: api.NodePair, From: 3, To: 8, Kids: []int{30, 5}},
		{Id: 5, Kind: api.NodeWord, From: 6, To: 8},
		{Id: 6, Kind: api.NodeRoot, From: 0, To: 20, Kids: []int{9, 40}},
		{Id: 9, Kind: api.NodeObject, From: 1, To: 8, Kids: []int{11, 2}},
		{Id: 11, Kind: api.NodeError, From: 2, To: 2},
		{Id: 30, Kind: api.NodeText, From: 3, To: 6},
		{Id: 40, Kind: api.NodeError, From: 8, To: 20, Kids: []int{41}},
		{Id: 41, Kind: api.NodeArray, From: 8, To: 19, Kids: []int{0, 49}},
		{Id: 49, Kind: api.NodeError, From: 12, To: 12},
	}}
}

const sampleSize = 20

// lone is a tree of a root alone.
func lone(id, next, size int) api.Tree {
	return api.Tree{Root: id, Next: next, Nodes: []api.Node{{Id: id, Kind: api.NodeRoot, To: size}}}
}

// wide is a tree of n nodes: a root and its children, each without a length or of one byte.
func wide(n, length int) api.Tree {
	t := lone(0, n, (n-1)*length)
	for i := 1; i < n; i++ {
		t.Nodes[0].Kids = append(t.Nodes[0].Kids, i)
		t.Nodes = append(t.Nodes, api.Node{Id: i, Kind: api.NodeError, From: (i - 1) * length, To: i * length})
	}
	return t
}

// deep is a tree of n nodes, each the only child of the one ahead.
func deep(n, size int) api.Tree {
	t := lone(0, n, size)
	for i := 1; i < n; i++ {
		t.Nodes[i-1].Kids = []int{i}
		t.Nodes = append(t.Nodes, api.Node{Id: i, Kind: api.NodeArray, To: size})
	}
	return t
}

// taken: does May take it, as the words do?
func taken(t *testing.T, name string, x api.Tree, size int) {
	t.Helper()
	if !plainMay(x, size) {
		t.Fatalf("%s: the test is wrong", name)
	}
	if !parse.May(x, size) {
		t.Errorf("P11.2: %s: %s, %d may not be", name, brief(x), size)
	}
}

// refused: does May not take it, as the words do not?
func refused(t *testing.T, name string, x api.Tree, size int) {
	t.Helper()
	if plainMay(x, size) {
		t.Fatalf("%s: the test is wrong", name)
	}
	if parse.May(x, size) {
		t.Errorf("P11.2: %s: %s, %d may be", name, brief(x), size)
	}
}

// Trees that were turned at one place, and may be still.
func TestMayTakes(t *testing.T) {
	for name, turn := range map[string]func(x *api.Tree){
		"the sample":      func(x *api.Tree) {},
		"Next just above": func(x *api.Tree) { x.Next = 50 },
		"Next at MaxIds":  func(x *api.Tree) { x.Next = api.MaxIds },
		"the last id below": func(x *api.Tree) {
			x.Next = api.MaxIds
			x.Nodes[9].Id = api.MaxIds - 1
			node(x, 41).Kids = []int{0, api.MaxIds - 1}
		},
		"lists that are empty":    func(x *api.Tree) { node(x, 0).Kids, node(x, 11).Kids, node(x, 5).Kids = []int{}, []int{}, []int{} },
		"the whole span":          func(x *api.Tree) { node(x, 9).From = 0 },
		"without a length, ahead": func(x *api.Tree) { node(x, 11).From, node(x, 11).To = 1, 1 },
		"without a length, next":  func(x *api.Tree) { node(x, 11).From, node(x, 11).To = 3, 3 },
		"without a length, last":  func(x *api.Tree) { node(x, 49).From, node(x, 49).To = 19, 19 },
		"a text without a length": func(x *api.Tree) { node(x, 30).From = 6 },
		"a child of an error":     func(x *api.Tree) { node(x, 9).Kind = api.NodeError },
		"a pair anywhere":         func(x *api.Tree) { node(x, 40).Kind = api.NodePair },
		"a pair with one child": func(x *api.Tree) {
			node(x, 2).Kids = []int{30}
			node(x, 40).Kids = []int{41}
			node(x, 9).Kids = []int{11, 2, 5}
			node(x, 2).To = 6
		},
	} {
		x := sample()
		turn(&x)
		taken(t, name, x, sampleSize)
	}
	taken(t, "the least", lone(0, 1, 0), 0)
	taken(t, "one node, the last id", lone(api.MaxIds-1, api.MaxIds, 7), 7)
	taken(t, "one node, MaxLen", lone(3, 4, api.MaxLen), api.MaxLen)
	taken(t, "one node, Next far above", lone(0, api.MaxIds, 0), 0)
	taken(t, "MaxNodes, wide", wide(api.MaxNodes, 1), api.MaxNodes-1)
	taken(t, "MaxNodes, wide, MaxLen", wide(api.MaxNodes, 2), 2*api.MaxNodes-2)
	taken(t, "MaxNodes, wide, without a length", wide(api.MaxNodes, 0), 0)
	taken(t, "MaxNodes, deep", deep(api.MaxNodes, api.MaxLen), api.MaxLen)
	taken(t, "MaxNodes, deep, without a length", deep(api.MaxNodes, 0), 0)
}

func TestMayRefusesNumbers(t *testing.T) {
	for name, turn := range map[string]func(x *api.Tree){
		"no nodes":            func(x *api.Tree) { x.Nodes = nil },
		"an empty list":       func(x *api.Tree) { x.Nodes = []api.Node{} },
		"nothing at all":      func(x *api.Tree) { *x = api.Tree{} },
		"ids that fall":       func(x *api.Tree) { x.Nodes[0], x.Nodes[1] = x.Nodes[1], x.Nodes[0] },
		"ids that fall, last": func(x *api.Tree) { x.Nodes[8], x.Nodes[9] = x.Nodes[9], x.Nodes[8] },
		"ids turned":          func(x *api.Tree) { slices.Reverse(x.Nodes) },
		"ids that stay":       func(x *api.Tree) { x.Nodes = slices.Insert(x.Nodes, 1, x.Nodes[0]) },
		"the root twice":      func(x *api.Tree) { x.Nodes = slices.Insert(x.Nodes, 4, x.Nodes[3]) },
		"the last twice":      func(x *api.Tree) { x.Nodes = append(x.Nodes, x.Nodes[9]) },
		"an id below 0":       func(x *api.Tree) { x.Nodes[0].Id = -1; node(x, 41).Kids = []int{-1, 49} },
		"an id at Next":       func(x *api.Tree) { x.Next = 49 },
		"ids above Next":      func(x *api.Tree) { x.Next = 20 },
		"Next at 0":           func(x *api.Tree) { x.Next = 0 },
		"Next below 0":        func(x *api.Tree) { x.Next = -1 },
		"Next too great":      func(x *api.Tree) { x.Next = api.MaxIds + 1 },
		"an id at MaxIds": func(x *api.Tree) {
			x.Next = api.MaxIds + 1
			x.Nodes[9].Id = api.MaxIds
			node(x, 41).Kids = []int{0, api.MaxIds}
		},
	} {
		x := sample()
		turn(&x)
		refused(t, name, x, sampleSize)
	}
	refused(t, "MaxNodes and one, wide", wide(api.MaxNodes+1, 1), api.MaxNodes)
	refused(t, "MaxNodes and one, without a length", wide(api.MaxNodes+1, 0), 0)
	refused(t, "MaxNodes and one, deep", deep(api.MaxNodes+1, 1), 1)
	refused(t, "one node at Next", lone(5, 5, 0), 0)
	refused(t, "one node below 0", lone(-1, 5, 0), 0)
	refused(t, "one node, Next too great", lone(0, api.MaxIds+1, 0), 0)
}

func TestMayRefusesSizes(t *testing.T) {
	for _, size := range []int{-1, 0, 1, sampleSize - 1, sampleSize + 1, api.MaxLen, api.MaxLen + 1, math.MaxInt, math.MinInt, -sampleSize} {
		refused(t, "a size", sample(), size)
	}
	for _, size := range []int{-1, math.MinInt, api.MaxLen + 1, math.MaxInt} {
		refused(t, "a size that the root has", lone(0, 1, size), size)
	}
}

func TestMayRefusesRoots(t *testing.T) {
	for name, turn := range map[string]func(x *api.Tree){
		"no NodeRoot":               func(x *api.Tree) { node(x, 6).Kind = api.NodeArray },
		"no NodeRoot, an error":     func(x *api.Tree) { node(x, 6).Kind = api.NodeError },
		"two of them":               func(x *api.Tree) { node(x, 40).Kind = api.NodeRoot },
		"two of them, none a child": func(x *api.Tree) { x.Nodes = append(x.Nodes, api.Node{Id: 50, To: sampleSize}); x.Next = 60 },
		"two of them, one below":    func(x *api.Tree) { node(x, 49).Kind = api.NodeRoot },
		"two of them, of the whole": func(x *api.Tree) {
			node(x, 6).Kids = []int{9}
			node(x, 9).Kind, node(x, 9).From, node(x, 9).To = api.NodeRoot, 0, sampleSize
			node(x, 9).Kids = []int{11, 2, 40}
		},
		"Root is another one":         func(x *api.Tree) { x.Root = 9 },
		"Root is a leaf":              func(x *api.Tree) { x.Root = 0 },
		"Root is none":                func(x *api.Tree) { x.Root = 7 },
		"Root is below 0":             func(x *api.Tree) { x.Root = -1 },
		"Root is Next":                func(x *api.Tree) { x.Root = 50 },
		"a root's place":              func(x *api.Tree) { x.Root = 3 },
		"it begins behind 0":          func(x *api.Tree) { node(x, 6).From = 1 },
		"it begins ahead of 0":        func(x *api.Tree) { node(x, 6).From = -1 },
		"it ends ahead of size":       func(x *api.Tree) { node(x, 6).To, node(x, 40).To = 19, 19 },
		"it ends behind size":         func(x *api.Tree) { node(x, 6).To = 21 },
		"it ends behind, a child too": func(x *api.Tree) { node(x, 6).To, node(x, 40).To = 21, 21 },
	} {
		x := sample()
		turn(&x)
		refused(t, name, x, sampleSize)
	}
}

func TestMayRefusesChildren(t *testing.T) {
	for name, turn := range map[string]func(x *api.Tree){
		"nobody's child":               func(x *api.Tree) { node(x, 6).Kids = []int{9} },
		"nobody's child, a leaf":       func(x *api.Tree) { node(x, 2).Kids = []int{30} },
		"the root has none":            func(x *api.Tree) { node(x, 6).Kids = nil },
		"the child of two":             func(x *api.Tree) { node(x, 40).Kids = []int{41, 49}; node(x, 49).From, node(x, 49).To = 19, 19 },
		"the child of two, one above":  func(x *api.Tree) { node(x, 6).Kids = []int{9, 49, 40}; node(x, 49).From, node(x, 49).To = 8, 8 },
		"twice of one":                 func(x *api.Tree) { node(x, 41).Kids = []int{0, 49, 49} },
		"twice of one, and one less":   func(x *api.Tree) { node(x, 9).Kids = []int{11, 11} },
		"the root as a child":          func(x *api.Tree) { node(x, 41).Kids = []int{0, 49, 6} },
		"the root as its own child":    func(x *api.Tree) { node(x, 6).Kids = []int{6, 9, 40} },
		"its own child":                func(x *api.Tree) { node(x, 40).Kids = []int{40} },
		"its own child, and another's": func(x *api.Tree) { node(x, 11).Kids = []int{11} },
		"its own child alone":          func(x *api.Tree) { node(x, 9).Kids = []int{2}; node(x, 11).Kids = []int{11} },
		"a ring of two":                func(x *api.Tree) { node(x, 6).Kids = []int{9}; ring(x, 40, 41); x.Nodes = drop(x, 0, 49) },
		"a ring of three":              func(x *api.Tree) { node(x, 6).Kids = []int{9}; ring(x, 40, 41, 49); x.Nodes = drop(x, 0) },
		"a ring and what hangs on it": func(x *api.Tree) {
			node(x, 6).Kids = []int{9}
			ring(x, 40, 41)
			node(x, 41).Kids = []int{40, 0, 49}
			node(x, 0).From, node(x, 0).To, node(x, 49).From, node(x, 49).To = 20, 20, 20, 20
		},
		"none of the nodes":          func(x *api.Tree) { node(x, 9).Kids = []int{11, 2, 3} },
		"none of the nodes, first":   func(x *api.Tree) { node(x, 9).Kids = []int{1, 11, 2} },
		"none of them, below 0":      func(x *api.Tree) { node(x, 9).Kids = []int{-1, 11, 2} },
		"none of them, Next":         func(x *api.Tree) { node(x, 9).Kids = []int{11, 2, 50} },
		"none of them, the greatest": func(x *api.Tree) { node(x, 9).Kids = []int{11, 2, math.MaxInt} },
		"none of them, the least":    func(x *api.Tree) { node(x, 9).Kids = []int{11, 2, math.MinInt} },
		"of a node without any":      func(x *api.Tree) { node(x, 11).Kids = []int{12} },
		"of a text":                  func(x *api.Tree) { node(x, 2).Kind = api.NodeText },
		"of a number":                func(x *api.Tree) { node(x, 41).Kind = api.NodeNumber },
		"of a word":                  func(x *api.Tree) { node(x, 9).Kind = api.NodeWord },
		"of a text without a length": func(x *api.Tree) { node(x, 2).Kids = []int{30}; node(x, 30).Kids = []int{5}; node(x, 30).To = 8 },
		"a long row of one":          func(x *api.Tree) { node(x, 9).Kids = slices.Repeat([]int{11}, 1000000) },
		"a long row of none":         func(x *api.Tree) { node(x, 41).Kids = slices.Repeat([]int{7}, 1000000) },
	} {
		x := sample()
		turn(&x)
		refused(t, name, x, sampleSize)
	}
}

// The root as a child where all else fits: of itself, and of one that goes as far.
func TestMayRefusesTheRootAsAChild(t *testing.T) {
	for _, size := range []int{0, 7} {
		x := lone(0, 1, size)
		x.Nodes[0].Kids = []int{0}
		refused(t, "of itself", x, size)
		for _, kind := range []int{api.NodeObject, api.NodeArray, api.NodePair, api.NodeError} {
			x = deep(3, size)
			x.Nodes[2].Kind, x.Nodes[2].Kids = kind, []int{0}
			refused(t, "of the last", x, size)
		}
	}
}

// ring makes each of these the only child of the one ahead, and the first that of the last, with one span.
func ring(x *api.Tree, ids ...int) {
	for i, id := range ids {
		n := node(x, id)
		n.Kind, n.From, n.To, n.Kids = api.NodeArray, 20, 20, []int{ids[(i+1)%len(ids)]}
	}
}

// drop is the nodes without some.
func drop(x *api.Tree, ids ...int) []api.Node {
	return slices.DeleteFunc(x.Nodes, func(n api.Node) bool { return slices.Contains(ids, n.Id) })
}

func TestMayRefusesKindsAndSpans(t *testing.T) {
	for name, turn := range map[string]func(x *api.Tree){
		"a kind below 0":            func(x *api.Tree) { node(x, 11).Kind = -1 },
		"a kind behind the last":    func(x *api.Tree) { node(x, 11).Kind = api.NodeError + 1 },
		"a kind below 0, with kids": func(x *api.Tree) { node(x, 9).Kind = -1 },
		"a kind behind, with kids":  func(x *api.Tree) { node(x, 9).Kind = 8 },
		"the greatest kind":         func(x *api.Tree) { node(x, 49).Kind = math.MaxInt },
		"the least kind":            func(x *api.Tree) { node(x, 49).Kind = math.MinInt },
		"the root's kind below 0":   func(x *api.Tree) { node(x, 6).Kind = -1 },
		"From behind To":            func(x *api.Tree) { node(x, 49).From, node(x, 49).To = 14, 13 },
		"From behind To, a text":    func(x *api.Tree) { node(x, 30).From, node(x, 30).To = 4, 3 },
		"From behind To, between":   func(x *api.Tree) { node(x, 11).From, node(x, 11).To = 3, 2 },
		"From behind To, with kids": func(x *api.Tree) {
			node(x, 41).From, node(x, 41).To, node(x, 41).Kids = 19, 8, nil
			node(x, 40).Kids = []int{0, 49, 41}
		},
		"ahead of its parent":          func(x *api.Tree) { node(x, 0).From = 7 },
		"ahead of its parent, whole":   func(x *api.Tree) { node(x, 11).From, node(x, 11).To = 0, 0 },
		"ahead of 0":                   func(x *api.Tree) { node(x, 9).From = -1 },
		"behind its parent":            func(x *api.Tree) { node(x, 5).To = 9 },
		"behind its parent, whole":     func(x *api.Tree) { node(x, 49).From, node(x, 49).To = 20, 20 },
		"behind its parent's parent":   func(x *api.Tree) { node(x, 41).To = 21 },
		"behind size":                  func(x *api.Tree) { node(x, 40).To = 21 },
		"wider than its parent":        func(x *api.Tree) { node(x, 41).From, node(x, 41).To = 7, 21 },
		"two that overlap":             func(x *api.Tree) { node(x, 5).From = 5 },
		"two that overlap, one within": func(x *api.Tree) { node(x, 49).From, node(x, 49).To = 10, 10 },
		"two that are the same":        func(x *api.Tree) { node(x, 5).From, node(x, 5).To = 3, 6 },
		"two that overlap above":       func(x *api.Tree) { node(x, 40).From = 7 },
		"in the wrong row":             func(x *api.Tree) { node(x, 2).Kids = []int{5, 30} },
		"in the wrong row, above":      func(x *api.Tree) { node(x, 6).Kids = []int{40, 9} },
		"in the wrong row, no length":  func(x *api.Tree) { node(x, 9).Kids = []int{2, 11} },
	} {
		x := sample()
		turn(&x)
		refused(t, name, x, sampleSize)
	}
	// A child without a length between two does not hide that they overlap.
	x := wide(4, 2)
	x.Nodes[2].From, x.Nodes[2].To = 2, 2
	x.Nodes[3].From, x.Nodes[3].To = 1, 2
	refused(t, "the third within the first", x, 6)
}

// The greatest and the least numbers, in each field.
func TestMayRefusesFarNumbers(t *testing.T) {
	for _, far := range []int{math.MaxInt, math.MaxInt - 1, math.MinInt, math.MinInt + 1} {
		for at := range sample().Nodes {
			for name, turn := range map[string]func(n *api.Node){
				"Id":   func(n *api.Node) { n.Id = far },
				"Kind": func(n *api.Node) { n.Kind = far },
				"From": func(n *api.Node) { n.From = far },
				"To":   func(n *api.Node) { n.To = far },
				"both": func(n *api.Node) { n.From, n.To = far, far },
				"Kids": func(n *api.Node) { n.Kids = append(n.Kids, far) },
				"ends": func(n *api.Node) { n.From, n.To = math.MinInt, math.MaxInt },
				"turn": func(n *api.Node) { n.From, n.To = math.MaxInt, math.MinInt },
			} {
				x := sample()
				turn(&x.Nodes[at])
				refused(t, name, x, sampleSize)
			}
		}
		x := sample()
		x.Root = far
		refused(t, "Root", x, sampleSize)
		x = sample()
		x.Next = far
		refused(t, "Next", x, sampleSize)
		refused(t, "size", sample(), far)
		refused(t, "all", api.Tree{Root: far, Next: far, Nodes: []api.Node{{Id: far, Kind: far, From: far, To: far, Kids: []int{far}}}}, far)
		refused(t, "no nodes", api.Tree{Root: far, Next: far}, far)
	}
}

// spread gives a tree other ids, by chance, in another row.
func spread(r *rand.Rand, x api.Tree) api.Tree {
	ids := r.Perm(3 * len(x.Nodes))[:len(x.Nodes)]
	out := copyOf(x)
	out.Root, out.Next = ids[x.Root], 3*len(x.Nodes)
	for i := range out.Nodes {
		out.Nodes[i].Id = ids[i]
		for j, k := range x.Nodes[i].Kids {
			out.Nodes[i].Kids[j] = ids[k]
		}
	}
	slices.SortFunc(out.Nodes, func(a, b api.Node) int { return a.Id - b.Id })
	return out
}

// turnOne turns one number of a tree, by chance.
func turnOne(r *rand.Rand, x *api.Tree) {
	n := &x.Nodes[r.Intn(len(x.Nodes))]
	other := x.Nodes[r.Intn(len(x.Nodes))]
	by := r.Intn(5) - 2
	switch r.Intn(9) {
	case 0:
		n.From += by
	case 1:
		n.To += by
	case 2:
		n.Kind += by
	case 3:
		n.Id += by
	case 4:
		n.Kids = append(n.Kids, other.Id)
	case 5:
		n.Kids = n.Kids[:len(n.Kids)-min(len(n.Kids), 1)]
	case 6:
		if len(n.Kids) > 0 {
			n.Kids[r.Intn(len(n.Kids))] = other.Id
		}
	case 7:
		x.Root += by
	case 8:
		n.From, n.To = other.From, other.To
	}
}

func TestMayByChance(t *testing.T) {
	r := rand.New(rand.NewSource(14))
	yes, no := 0, 0
	for range 20000 {
		s := chance(r, 12)
		x := spread(r, must(s))
		taken(t, "other ids", x, len(s))
		for range 1 + r.Intn(3) {
			turnOne(r, &x)
		}
		want := plainMay(x, len(s))
		if got := parse.May(x, len(s)); got != want {
			t.Fatalf("P11.2: %s, %d: %t, want %t", brief(x), len(s), got, want)
		}
		if want {
			yes++
		} else {
			no++
		}
	}
	if yes < 500 || no < 5000 {
		t.Errorf("%d may be, %d may not: the turns are too wild or too tame", yes, no)
	}
}

// What is handed in stays as it was, its spare room too.
func TestMayLeavesItsTree(t *testing.T) {
	mark := api.Node{Id: 77, Kind: 77, From: 77, To: 77}
	roomy := func() api.Tree {
		x := sample()
		for i := range x.Nodes {
			kids := append(slices.Clone(x.Nodes[i].Kids), 77, 77, 77)
			x.Nodes[i].Kids = kids[:len(kids)-3]
		}
		nodes := append(slices.Clone(x.Nodes), mark, mark, mark)
		x.Nodes = nodes[:len(nodes)-3]
		return x
	}
	for name, turn := range map[string]func(x *api.Tree){
		"taken":            func(x *api.Tree) {},
		"refused at first": func(x *api.Tree) { x.Next = 0 },
		"refused at last":  func(x *api.Tree) { node(x, 41).Kids[1] = 0 },
		"refused between":  func(x *api.Tree) { node(x, 2).Kids[1] = 9 },
		"refused, a span":  func(x *api.Tree) { node(x, 5).To = 9 },
	} {
		x := roomy()
		turn(&x)
		was := copyOf(x)
		parse.May(x, sampleSize)
		parse.May(x, sampleSize+1)
		if !same(x, was) {
			t.Errorf("%s: changed: %s", name, brief(x))
		}
		for _, n := range x.Nodes {
			if room := n.Kids[len(n.Kids) : len(n.Kids)+3]; !slices.Equal(room, []int{77, 77, 77}) {
				t.Errorf("%s: spare room of Kids changed: %v", name, room)
			}
		}
		for _, n := range x.Nodes[len(x.Nodes) : len(x.Nodes)+3] {
			if n.Id != 77 || n.Kind != 77 || n.From != 77 || n.To != 77 || n.Kids != nil {
				t.Errorf("%s: spare room of Nodes changed: %v", name, n)
			}
		}
	}
}
