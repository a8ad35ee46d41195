package renew_test

import (
	"math"
	"math/rand"
	"slices"
	"strings"
	"sync"
	"sync/atomic"
	"testing"

	"minuet/api"
	"minuet/parse"
	"minuet/renew"
)

// Wrong inputs, and the rules of all calls.

// copyOf is a tree in memory of its own.
func copyOf(x api.Tree) api.Tree {
	x.Nodes = slices.Clone(x.Nodes)
	for i := range x.Nodes {
		x.Nodes[i].Kids = slices.Clone(x.Nodes[i].Kids)
	}
	return x
}

// node is a node of a tree by its id.
func node(x *api.Tree, id int) *api.Node {
	return &x.Nodes[slices.IndexFunc(x.Nodes, func(n api.Node) bool { return n.Id == id })]
}

// put adds a node to a tree, at its place.
func put(x *api.Tree, n api.Node) {
	x.Nodes = append(x.Nodes, n)
	slices.SortFunc(x.Nodes, func(a, b api.Node) int { return a.Id - b.Id })
}

// turned is the far tree with something of it turned, which may be, or may not, as told.
func turned(t *testing.T, name string, may bool, turn func(x *api.Tree)) api.Tree {
	t.Helper()
	x := far()
	turn(&x)
	if parse.May(x, len(farText)) != may {
		t.Fatalf("%s: the test is wrong", name)
	}
	return x
}

// refusedAll: is there no tree of any text?
func refusedAll(t *testing.T, name string, x api.Tree, s string) {
	t.Helper()
	for _, u := range []string{s, "", "1", "[1,[2],3,4]"} {
		refused(t, name, x, s, u)
	}
}

func TestRefusesTreesThatMayNotBe(t *testing.T) {
	for name, turn := range map[string]func(x *api.Tree){
		"nothing at all":         func(x *api.Tree) { *x = api.Tree{} },
		"no nodes":               func(x *api.Tree) { x.Nodes = nil },
		"an empty list":          func(x *api.Tree) { x.Nodes = []api.Node{} },
		"too many nodes":         func(x *api.Tree) { x.Nodes = slices.Repeat(x.Nodes, api.MaxNodes) },
		"ids that fall":          func(x *api.Tree) { x.Nodes[2], x.Nodes[3] = x.Nodes[3], x.Nodes[2] },
		"an id twice":            func(x *api.Tree) { x.Nodes = slices.Insert(x.Nodes, 1, x.Nodes[0]) },
		"in the text's row":      func(x *api.Tree) { slices.SortFunc(x.Nodes, func(a, b api.Node) int { return a.From - b.From }) },
		"an id below 0":          func(x *api.Tree) { x.Nodes[0].Id = -1; node(x, 20).Kids[0] = -1 },
		"an id at Next":          func(x *api.Tree) { x.Next = 900 },
		"Next at 0":              func(x *api.Tree) { x.Next = 0 },
		"Next below 0":           func(x *api.Tree) { x.Next = -1 },
		"Next behind MaxIds":     func(x *api.Tree) { x.Next = api.MaxIds + 1 },
		"no root":                func(x *api.Tree) { node(x, 70).Kind = api.NodeError },
		"two roots":              func(x *api.Tree) { node(x, 20).Kind = api.NodeRoot },
		"Root is another":        func(x *api.Tree) { x.Root = 4 },
		"Root is none":           func(x *api.Tree) { x.Root = 0 },
		"the root from 1 on":     func(x *api.Tree) { node(x, 70).From = 1 },
		"the root is shorter":    func(x *api.Tree) { node(x, 70).To, node(x, 4).To = 8, 8 },
		"the root is longer":     func(x *api.Tree) { node(x, 70).To = 10 },
		"the root as a child":    func(x *api.Tree) { node(x, 20).Kids = []int{3, 70} },
		"nobody's child":         func(x *api.Tree) { node(x, 4).Kids = []int{900, 20} },
		"the child of two":       func(x *api.Tree) { node(x, 20).Kids = []int{3, 8} },
		"twice of one":           func(x *api.Tree) { node(x, 4).Kids = []int{900, 900, 20, 8} },
		"its own child":          func(x *api.Tree) { node(x, 20).Kids = []int{20} },
		"a ring":                 func(x *api.Tree) { node(x, 70).Kids = nil; node(x, 20).Kids = []int{4, 3} },
		"no such child":          func(x *api.Tree) { node(x, 20).Kids = []int{3, 5} },
		"a child at Next":        func(x *api.Tree) { node(x, 20).Kids = []int{5000} },
		"a kind below 0":         func(x *api.Tree) { node(x, 8).Kind = -1 },
		"a kind behind the last": func(x *api.Tree) { node(x, 8).Kind = api.NodeError + 1 },
		"From behind To":         func(x *api.Tree) { node(x, 8).From = 9 },
		"ahead of its parent":    func(x *api.Tree) { node(x, 3).From = 2 },
		"behind its parent":      func(x *api.Tree) { node(x, 3).To = 7 },
		"two that overlap":       func(x *api.Tree) { node(x, 8).From = 5 },
		"in the wrong row":       func(x *api.Tree) { node(x, 4).Kids = []int{20, 900, 8} },
		"a number's child":       func(x *api.Tree) { node(x, 20).Kind = api.NodeNumber },
		"a text's child":         func(x *api.Tree) { node(x, 20).Kind = api.NodeText },
		"a word's child":         func(x *api.Tree) { node(x, 20).Kind = api.NodeWord },
	} {
		refusedAll(t, name, turned(t, name, false, turn), farText)
	}
}

func TestRefusesTreesOfNoneOrOther(t *testing.T) {
	for name, turn := range map[string]func(x *api.Tree){
		"another kind":            func(x *api.Tree) { node(x, 8).Kind = api.NodeWord },
		"another kind below":      func(x *api.Tree) { node(x, 3).Kind = api.NodeText },
		"another list's kind":     func(x *api.Tree) { node(x, 20).Kind = api.NodeObject },
		"an error":                func(x *api.Tree) { node(x, 4).Kind = api.NodeError },
		"a pair":                  func(x *api.Tree) { node(x, 20).Kind = api.NodePair },
		"From farther":            func(x *api.Tree) { node(x, 3).From = 5 },
		"From nearer":             func(x *api.Tree) { node(x, 900).From = 0 },
		"To farther":              func(x *api.Tree) { node(x, 8).To = 9 },
		"To nearer":               func(x *api.Tree) { node(x, 4).To = 8 },
		"without a length":        func(x *api.Tree) { node(x, 900).To = 1 },
		"a child's child less":    func(x *api.Tree) { node(x, 20).Kids = nil; x.Nodes = x.Nodes[1:] },
		"the last child less":     func(x *api.Tree) { node(x, 4).Kids = []int{900, 20}; x.Nodes = slices.Delete(x.Nodes, 2, 3) },
		"the root alone":          func(x *api.Tree) { node(x, 70).Kids = nil; x.Nodes = []api.Node{*node(x, 70)} },
		"a child's child farther": func(x *api.Tree) { node(x, 20).Kids = nil; node(x, 4).Kids = []int{900, 20, 3, 8}; node(x, 20).To = 4 },
		"a child higher":          func(x *api.Tree) { node(x, 4).Kids = []int{900, 20}; node(x, 70).Kids = []int{4, 8}; node(x, 4).To = 7 },
		"one child more": func(x *api.Tree) {
			put(x, api.Node{Id: 5, Kind: api.NodeError, From: 9, To: 9})
			node(x, 4).Kids = []int{900, 20, 8, 5}
		},
		"one more at the root": func(x *api.Tree) {
			put(x, api.Node{Id: 5, Kind: api.NodeError, From: 9, To: 9})
			node(x, 70).Kids = []int{4, 5}
		},
		"one more between": func(x *api.Tree) {
			put(x, api.Node{Id: 5, Kind: api.NodeArray, From: 3, To: 6, Kids: []int{20}})
			node(x, 4).Kids = []int{900, 5, 8}
		},
	} {
		refusedAll(t, name, turned(t, name, true, turn), farText)
	}
	// Another text's, of this length or another one.
	for _, s := range []string{"", "1", "[1,[2],3", "[1,[2],3] ", " [1,[2],3]", "[1,[2],33]", "[1,[22,3]", "[1,[2],#]", "[1,{2},3]", "[1, 2 ,3]", `["",["",]`, "[1,[2] 3]", "         ", strings.Repeat(" ", 4000)} {
		refusedAll(t, "another text's", far(), s)
	}
	for _, s := range samples() {
		for _, u := range samples() {
			if x, y := must(s), must(u); len(s) != len(u) || !same(x, y) {
				refused(t, "another text's", x, u, u)
			}
		}
	}
}

// The same kinds and spans, one behind the other, but some are another one's children: layer 11's lacks have no length.
func TestRefusesOtherRowsOfChildren(t *testing.T) {
	const s = "[["
	lacks := func(root, outer, inner []int) api.Tree {
		x := must(s)
		x.Nodes[0].Kids, x.Nodes[1].Kids, x.Nodes[2].Kids = root, outer, inner
		return x
	}
	x := lacks([]int{1}, []int{2, 4}, []int{3})
	if !same(x, must(s)) {
		t.Fatal("the test is wrong")
	}
	right(t, x, s, "[[1")
	// The two lacks may have each other's ids.
	right(t, lacks([]int{1}, []int{2, 3}, []int{4}), s, "[[1")
	for _, x := range []api.Tree{
		lacks([]int{1}, []int{2}, []int{3, 4}),
		lacks([]int{1}, []int{2, 3, 4}, nil),
		lacks([]int{1, 4}, []int{2}, []int{3}),
		lacks([]int{1, 4}, []int{2, 3}, nil),
		lacks([]int{1, 3, 4}, []int{2}, nil),
	} {
		if !parse.May(x, len(s)) {
			t.Fatal("the test is wrong")
		}
		refusedAll(t, "another row of children", x, s)
	}
}

// Trees of which a number was turned are refused, unless they are the text's own still, but for ids.
func TestTurnedByChance(t *testing.T) {
	r := rand.New(rand.NewSource(134))
	yes, no := 0, 0
	for range 5000 {
		s := chance(r, 12)
		x := spread(r, must(s))
		n, other := &x.Nodes[r.Intn(len(x.Nodes))], x.Nodes[r.Intn(len(x.Nodes))]
		by := r.Intn(3) - 1
		switch r.Intn(6) {
		case 0:
			n.From += by
		case 1:
			n.To += by
		case 2:
			n.Kind += by
		case 3:
			n.From, n.To = other.From, other.To
		case 4:
			n.Kind = other.Kind
		case 5:
			if len(n.Kids) > 1 {
				n.Kids[0], n.Kids[len(n.Kids)-1] = n.Kids[len(n.Kids)-1], n.Kids[0]
			}
		}
		u := edited(r, s)
		if parse.May(x, len(s)) && branches(x, s, x.Root).mark == branches(must(s), s, 0).mark {
			right(t, x, s, u)
			yes++
			continue
		}
		refused(t, "turned", x, s, u)
		no++
	}
	if yes < 500 || no < 1000 {
		t.Errorf("%d taken, %d refused: the turns are too wild or too tame", yes, no)
	}
}

func TestRefusesTextsThatAreTooLong(t *testing.T) {
	const n = api.MaxDoc + 1
	for _, u := range []string{strings.Repeat(" ", n), strings.Repeat("[", n), strings.Repeat("0,", n), strings.Repeat(" ", 1<<20)} {
		refused(t, "a new text", far(), farText, u)
		refused(t, "both", far(), u, u)
	}
	// The old text's tree as layer 11's words would tell it, if such a text had one.
	blank := func(n int) (api.Tree, string) {
		return api.Tree{Root: 0, Next: 2, Nodes: []api.Node{
			{Id: 0, Kind: api.NodeRoot, From: 0, To: n, Kids: []int{1}},
			{Id: 1, Kind: api.NodeError, From: n, To: n},
		}}, strings.Repeat(" ", n)
	}
	x, s := blank(api.MaxDoc)
	right(t, x, s, "1")
	for _, n := range []int{api.MaxDoc + 1, api.MaxDoc + 2, api.MaxLen, api.MaxLen + 1} {
		x, s = blank(n)
		refusedAll(t, "an old text", x, s)
	}
}

// The greatest and the least numbers, in each field.
func TestRefusesFarNumbers(t *testing.T) {
	for _, n := range []int{math.MaxInt, math.MaxInt - 1, math.MinInt, math.MinInt + 1} {
		for at := range far().Nodes {
			for name, turn := range map[string]func(x *api.Node){
				"Id":   func(x *api.Node) { x.Id = n },
				"Kind": func(x *api.Node) { x.Kind = n },
				"From": func(x *api.Node) { x.From = n },
				"To":   func(x *api.Node) { x.To = n },
				"both": func(x *api.Node) { x.From, x.To = n, n },
				"ends": func(x *api.Node) { x.From, x.To = math.MinInt, math.MaxInt },
				"Kids": func(x *api.Node) { x.Kids = append(x.Kids, n) },
				"one":  func(x *api.Node) { x.Kids = []int{n} },
			} {
				refusedAll(t, name, turned(t, name, false, func(x *api.Tree) { turn(&x.Nodes[at]) }), farText)
			}
		}
		refusedAll(t, "Root", turned(t, "Root", false, func(x *api.Tree) { x.Root = n }), farText)
		refusedAll(t, "Next", turned(t, "Next", false, func(x *api.Tree) { x.Next = n }), farText)
		refusedAll(t, "all", api.Tree{Root: n, Next: n, Nodes: []api.Node{{Id: n, Kind: n, From: n, To: n, Kids: []int{n}}}}, farText)
		refusedAll(t, "no nodes", api.Tree{Root: n, Next: n}, "")
	}
}

// roomy is a tree whose lists have spare room, with marks in it.
func roomy(x api.Tree) api.Tree {
	mark := api.Node{Id: 77, Kind: 77, From: 77, To: 77}
	nodes := append(slices.Clone(x.Nodes), mark, mark, mark)
	for i := range x.Nodes {
		kids := append(slices.Clone(x.Nodes[i].Kids), 77, 77, 77)
		nodes[i].Kids = kids[:len(kids)-3]
	}
	x.Nodes = nodes[:len(nodes)-3]
	return x
}

// untouched: is a roomy tree as it was, its spare room too?
func untouched(t *testing.T, x, was api.Tree) {
	t.Helper()
	if !same(x, was) {
		t.Fatalf("changed: %s, was %s", brief(x), brief(was))
	}
	for _, n := range x.Nodes {
		if room := n.Kids[len(n.Kids) : len(n.Kids)+3]; !slices.Equal(room, []int{77, 77, 77}) {
			t.Fatalf("spare room of Kids changed: %v", room)
		}
	}
	for _, n := range x.Nodes[len(x.Nodes) : len(x.Nodes)+3] {
		if n.Id != 77 || n.Kind != 77 || n.From != 77 || n.To != 77 || n.Kids != nil {
			t.Fatalf("spare room of Nodes changed: %v", n)
		}
	}
}

func TestLeavesItsTree(t *testing.T) {
	r := rand.New(rand.NewSource(135))
	for range 300 {
		s := chance(r, 30)
		was := spread(r, must(s))
		x := roomy(was)
		for _, u := range []string{s, edited(r, s), chance(r, 30), "", strings.Repeat(" ", api.MaxDoc+1)} {
			renew.Renew(x, s, u)
			renew.Renew(x, s+" ", u)
			untouched(t, x, was)
		}
		was.Next = api.MaxIds
		x = roomy(was)
		renew.Renew(x, s, "[[[]]]"+chance(r, 5))
		untouched(t, x, was)
		was.Nodes[0].Kind = -1
		x = roomy(was)
		renew.Renew(x, s, s)
		untouched(t, x, was)
	}
}

// spoil writes over a tree, its spare room too.
func spoil(x api.Tree) {
	for _, n := range x.Nodes {
		spoilKids(n.Kids)
	}
	nodes := x.Nodes[:cap(x.Nodes)]
	for i := range nodes {
		nodes[i] = api.Node{Id: 77, Kind: 77, From: 77, To: 77}
	}
}

// spoilKids writes over a list, its spare room too.
func spoilKids(kids []int) {
	kids = kids[:cap(kids)]
	for i := range kids {
		kids[i] = 77
	}
}

func TestAnswersAreNewMemory(t *testing.T) {
	r := rand.New(rand.NewSource(136))
	for range 300 {
		s := chance(r, 30)
		x := spread(r, must(s))
		for _, u := range []string{s, " " + s, edited(r, s), chance(r, 30), ""} {
			if len(u) > api.MaxDoc {
				continue
			}
			old := copyOf(x)
			one, two := right(t, old, s, u), right(t, old, s, u)
			want := copyOf(one)
			spoil(one)
			if !same(old, x) || !same(two, want) {
				t.Fatalf("%s, %s: shares memory", brief(s), brief(u))
			}
			spoil(old)
			if !same(two, want) || !same(right(t, x, s, u), want) {
				t.Fatalf("%s, %s: shares memory with what was handed in", brief(s), brief(u))
			}
			// Each list of one answer for itself: the others, and the nodes, do not change with it.
			for i := range two.Nodes {
				spoilKids(two.Nodes[i].Kids)
				copy(two.Nodes[i].Kids, want.Nodes[i].Kids)
				if !same(two, want) {
					t.Fatalf("%s, %s: lists of one answer share memory", brief(s), brief(u))
				}
			}
		}
	}
}

// What a call answers does not hang on what was asked ahead of it, nor on who asks at the same time.
func TestCallsAtOneTime(t *testing.T) {
	x := far()
	u := "[0,1,[2,null],3] #"
	want := plainly(x, farText, u)
	var right atomic.Int64
	var group sync.WaitGroup
	for range 8 {
		group.Add(1)
		go func() {
			defer group.Done()
			for range 100 {
				got, e := renew.Renew(x, farText, u)
				back, f := renew.Renew(want, u, farText)
				none, g := renew.Renew(x, u, farText)
				if same(got, want) && e == api.OK && back.Root == 70 && back.Next >= want.Next && f == api.OK && none.Nodes == nil && g == api.ErrRenewForm {
					right.Add(1)
				}
			}
		}()
	}
	group.Wait()
	if right.Load() != 800 {
		t.Errorf("%d of 800 calls were right", right.Load())
	}
}
