package delta_test

import (
	"math"
	"math/rand"
	"slices"
	"sync"
	"testing"

	"minuet/api"
	"minuet/delta"
)

// Wrong inputs, and the rules of all calls.

// refused: are there no steps?
func refused(t *testing.T, name string, a, b api.Tree) {
	t.Helper()
	if _, e := plainly(a, b); e != api.ErrDeltaForm {
		t.Fatalf("%s: the test is wrong", name)
	}
	if got, e := delta.Between(a, b); e != api.ErrDeltaForm || got != nil {
		t.Errorf("P14.1: %s: %s, %s: %s, %d", name, brief(a), brief(b), brief(written(got)), e)
	}
}

// refusedBeside: are there no steps with a tree that may not be, as the first one, as the second one, and as both?
func refusedBeside(t *testing.T, name string, x api.Tree) {
	t.Helper()
	if mayBe(x) {
		t.Fatalf("%s: the test is wrong", name)
	}
	refused(t, name+", first", x, base())
	refused(t, name+", second", base(), x)
	refused(t, name+", both", x, x)
	refused(t, name+", beside none", x, api.Tree{})
	refused(t, name+", behind none", api.Tree{}, x)
}

// turns are ways to turn the base, so that it may not be.
func turns() map[string]func(x *api.Tree) {
	return map[string]func(x *api.Tree){
		"nothing at all":              func(x *api.Tree) { *x = api.Tree{} },
		"no nodes":                    func(x *api.Tree) { x.Nodes = nil },
		"an empty list":               func(x *api.Tree) { x.Nodes = []api.Node{} },
		"a list of a zero node":       func(x *api.Tree) { x.Nodes = []api.Node{{}} },
		"too many nodes":              func(x *api.Tree) { *x = wide(api.MaxNodes+1, 7, 1, 20); x.Root, x.Nodes[0].Id = 6, 6 },
		"far too many nodes":          func(x *api.Tree) { x.Nodes = slices.Repeat(x.Nodes, 10000) },
		"ids that fall":               func(x *api.Tree) { x.Nodes[0], x.Nodes[1] = x.Nodes[1], x.Nodes[0] },
		"ids that fall, last":         func(x *api.Tree) { x.Nodes[8], x.Nodes[9] = x.Nodes[9], x.Nodes[8] },
		"ids turned":                  func(x *api.Tree) { slices.Reverse(x.Nodes) },
		"an id twice":                 func(x *api.Tree) { x.Nodes = slices.Insert(x.Nodes, 1, x.Nodes[0]) },
		"the root twice":              func(x *api.Tree) { x.Nodes = slices.Insert(x.Nodes, 4, x.Nodes[3]) },
		"the last twice":              func(x *api.Tree) { x.Nodes = append(x.Nodes, x.Nodes[9]) },
		"an id below 0":               func(x *api.Tree) { x.Nodes[0].Id = -1; node(x, 41).Kids = []int{-1, 49} },
		"an id at Next":               func(x *api.Tree) { x.Next = 49 },
		"ids behind Next":             func(x *api.Tree) { x.Next = 20 },
		"Next at 0":                   func(x *api.Tree) { x.Next = 0 },
		"Next below 0":                func(x *api.Tree) { x.Next = -1 },
		"Next behind MaxIds":          func(x *api.Tree) { x.Next = api.MaxIds + 1 },
		"an id at MaxIds":             func(x *api.Tree) { put(x, nd(api.MaxIds, 'E', 20, 20)); node(x, 6).Kids = []int{9, 40, api.MaxIds} },
		"no NodeRoot":                 func(x *api.Tree) { node(x, 6).Kind = api.NodeError },
		"two of them":                 func(x *api.Tree) { node(x, 40).Kind = api.NodeRoot },
		"two of them, none a child":   func(x *api.Tree) { put(x, nd(60, 'R', 0, 20)) },
		"Root is another one":         func(x *api.Tree) { x.Root = 9 },
		"Root is a leaf":              func(x *api.Tree) { x.Root = 0 },
		"Root is none":                func(x *api.Tree) { x.Root = 7 },
		"Root is below 0":             func(x *api.Tree) { x.Root = -1 },
		"Root is Next":                func(x *api.Tree) { x.Root = 50 },
		"Root is the root's place":    func(x *api.Tree) { x.Root = 3 },
		"the root from 1 on":          func(x *api.Tree) { node(x, 6).From = 1 },
		"the root from -1 on":         func(x *api.Tree) { node(x, 6).From = -1 },
		"the root shorter than kids":  func(x *api.Tree) { node(x, 6).To = 19 },
		"the root to 0":               func(x *api.Tree) { node(x, 6).To = 0 },
		"the root to below 0":         func(x *api.Tree) { node(x, 6).To = -1 },
		"the root behind MaxLen":      func(x *api.Tree) { node(x, 6).To = api.MaxLen + 1 },
		"the root as a child":         func(x *api.Tree) { node(x, 41).Kids = []int{0, 49, 6} },
		"the root as its own child":   func(x *api.Tree) { node(x, 6).Kids = []int{6, 9, 40} },
		"nobody's child":              func(x *api.Tree) { node(x, 6).Kids = []int{9} },
		"nobody's child, a leaf":      func(x *api.Tree) { node(x, 2).Kids = []int{30} },
		"the child of two":            func(x *api.Tree) { node(x, 40).Kids = []int{41, 49}; node(x, 49).From, node(x, 49).To = 19, 19 },
		"twice of one":                func(x *api.Tree) { node(x, 41).Kids = []int{0, 49, 49} },
		"its own child":               func(x *api.Tree) { node(x, 40).Kids = []int{40} },
		"a ring":                      func(x *api.Tree) { node(x, 6).Kids = []int{9}; node(x, 41).Kids = []int{0, 49, 40} },
		"no such child":               func(x *api.Tree) { node(x, 9).Kids = []int{11, 2, 3} },
		"no such child, below 0":      func(x *api.Tree) { node(x, 9).Kids = []int{-1, 11, 2} },
		"no such child, Next":         func(x *api.Tree) { node(x, 9).Kids = []int{11, 2, 50} },
		"a long row of one":           func(x *api.Tree) { node(x, 9).Kids = slices.Repeat([]int{11}, 1000000) },
		"a text's child":              func(x *api.Tree) { node(x, 2).Kind = api.NodeText },
		"a number's child":            func(x *api.Tree) { node(x, 41).Kind = api.NodeNumber },
		"a word's child":              func(x *api.Tree) { node(x, 9).Kind = api.NodeWord },
		"a kind below 0":              func(x *api.Tree) { node(x, 11).Kind = -1 },
		"a kind behind the last":      func(x *api.Tree) { node(x, 11).Kind = api.NodeError + 1 },
		"From behind To":              func(x *api.Tree) { node(x, 49).From, node(x, 49).To = 14, 13 },
		"ahead of its parent":         func(x *api.Tree) { node(x, 0).From = 7 },
		"behind its parent":           func(x *api.Tree) { node(x, 5).To = 9 },
		"ahead of 0":                  func(x *api.Tree) { node(x, 9).From = -1 },
		"behind the root":             func(x *api.Tree) { node(x, 40).To = 21 },
		"two that overlap":            func(x *api.Tree) { node(x, 5).From = 5 },
		"two in the wrong row":        func(x *api.Tree) { node(x, 2).Kids = []int{5, 30} },
		"two in the wrong row, above": func(x *api.Tree) { node(x, 6).Kids = []int{40, 9} },
	}
}

func TestRefusesTreesThatMayNotBe(t *testing.T) {
	for name, turn := range turns() {
		x := base()
		turn(&x)
		refusedBeside(t, name, x)
	}
}

// Several wrong things at once: all two ways to turn a tree, one on each side.
func TestRefusesSeveralWrongThings(t *testing.T) {
	for name, turn := range turns() {
		x := base()
		turn(&x)
		for other, also := range turns() {
			y := base()
			also(&y)
			refused(t, name+", "+other, x, y)
		}
		// Another root, and two kinds, too.
		refused(t, name+", another root", x, tree(5, nd(5, 'R', 0, 20)))
		refused(t, name+", two kinds", tree(6, nd(0, 'W', 9, 12), nd(6, 'R', 0, 20, 0)), x)
	}
}

func TestRefusesRootsThatAreUnlike(t *testing.T) {
	lone := func(id int) api.Tree { return tree(id, nd(id, 'R', 0, 3)) }
	ids := []int{0, 1, 2, 6, api.MaxIds - 2, api.MaxIds - 1}
	for _, a := range ids {
		for _, b := range ids {
			if a == b {
				taken(t, "one root", lone(a), lone(b))
			} else {
				refused(t, "two roots", lone(a), lone(b))
			}
		}
	}
	// All that is in both is the same, or in both is nothing.
	a := tree(1, nd(1, 'R', 0, 9, 3), nd(3, 'A', 1, 2))
	b := tree(2, nd(2, 'R', 0, 9, 3), nd(3, 'A', 1, 2))
	refused(t, "another root above one child", a, b)
	refused(t, "another root above one child", b, a)
	refused(t, "a root beside the base's", base(), lone(7))
	refused(t, "a root beside the base's", lone(7), base())
	// The root of one is a child of the other: two kinds, too.
	refused(t, "a child is the root", base(), lone(9))
	refused(t, "the root is a child", lone(9), base())
}

// One node of the base has another kind: each of them, as the first one and as the second one.
func TestRefusesTwoKinds(t *testing.T) {
	for at, n := range base().Nodes {
		for kind := api.NodeObject; kind <= api.NodeError; kind++ {
			x := base()
			x.Nodes[at].Kind = kind
			switch {
			case kind == n.Kind:
				lead(t, "the same kind", base(), x, "", "")
			case mayBe(x):
				refused(t, "two kinds", base(), x)
				refused(t, "two kinds, back", x, base())
			default:
				refusedBeside(t, "a kind that may not be", x)
			}
		}
	}
	// The first id, one between, the last, where all others are others, and where a's or b's go farther.
	two := func(id int, kind byte, more ...int) api.Tree {
		x := tree(6, nd(6, 'R', 0, 9))
		for _, other := range append([]int{id}, more...) {
			put(&x, nd(other, kind, 9, 9))
			node(&x, 6).Kids = append(node(&x, 6).Kids, other)
			kind = 'E'
		}
		return x
	}
	for _, id := range []int{0, 5, 7, 40, 99, api.MaxIds - 1} {
		for _, more := range [][]int{nil, {1}, {8}, {1, 2, 3}, {41, 50}, {1, 41}, {90, 91, 92}} {
			for _, others := range [][]int{nil, {4}, {9}, {42}, {4, 9, 42, 95}} {
				refused(t, "two kinds", two(id, 'T', more...), two(id, 'N', others...))
				refused(t, "two kinds", two(id, 'N', others...), two(id, 'T', more...))
				taken(t, "one kind", two(id, 'T', more...), two(id, 'T', others...))
			}
		}
	}
	// Wherever it stands: it has another parent, other children, another span.
	a := tree(0, nd(0, 'R', 0, 9, 1), nd(1, 'A', 0, 9, 2), nd(2, 'O', 1, 3))
	b := tree(0, nd(0, 'R', 0, 9, 2), nd(2, 'P', 5, 9, 3), nd(3, 'W', 6, 7))
	refused(t, "two kinds elsewhere", a, b)
	refused(t, "two kinds elsewhere, back", b, a)
	// Trees of two texts, both with layer 11's ids.
	refused(t, "two texts", must("[1]"), must("[true]"))
	refused(t, "two texts", must("{}"), must("[]"))
	refused(t, "two texts", must(""), must("1"))
	taken(t, "two texts of the same kinds", must("[1]"), must("[22 ]"))
}

// The greatest and the least numbers, in each field.
func TestRefusesFarNumbers(t *testing.T) {
	for _, far := range []int{math.MaxInt, math.MaxInt - 1, math.MinInt, math.MinInt + 1} {
		for at := range base().Nodes {
			for name, turn := range map[string]func(n *api.Node){
				"Id":   func(n *api.Node) { n.Id = far },
				"Kind": func(n *api.Node) { n.Kind = far },
				"From": func(n *api.Node) { n.From = far },
				"To":   func(n *api.Node) { n.To = far },
				"both": func(n *api.Node) { n.From, n.To = far, far },
				"Kids": func(n *api.Node) { n.Kids = append(n.Kids, far) },
				"ends": func(n *api.Node) { n.From, n.To = math.MinInt, math.MaxInt },
				"turn": func(n *api.Node) { n.From, n.To = math.MaxInt, math.MinInt },
			} {
				x := base()
				turn(&x.Nodes[at])
				refusedBeside(t, name, x)
			}
		}
		x := base()
		x.Root = far
		refusedBeside(t, "Root", x)
		x = base()
		x.Next = far
		refusedBeside(t, "Next", x)
		refusedBeside(t, "all", api.Tree{Root: far, Next: far, Nodes: []api.Node{{Id: far, Kind: far, From: far, To: far, Kids: []int{far}}}})
		refusedBeside(t, "no nodes", api.Tree{Root: far, Next: far})
		refusedBeside(t, "a root alone", api.Tree{Root: far, Next: far, Nodes: []api.Node{{Id: far, To: 3}}})
	}
}

// turnOne turns one number of a tree, by chance.
func turnOne(r *rand.Rand, x *api.Tree) {
	n := &x.Nodes[r.Intn(len(x.Nodes))]
	other := x.Nodes[r.Intn(len(x.Nodes))]
	by := r.Intn(5) - 2
	switch r.Intn(8) {
	case 0:
		n.From += by
	case 1:
		n.To += by
	case 2:
		n.Kind += by
	case 3:
		n.Id += by
	case 4:
		n.Kids = append(n.Kids, other.Id)
	case 5:
		n.Kids = n.Kids[:len(n.Kids)-min(len(n.Kids), 1)]
	case 6:
		x.Root += by
	case 7:
		n.From, n.To = other.From, other.To
	}
}

func TestTurnedTreesByChance(t *testing.T) {
	r := rand.New(rand.NewSource(143))
	yes, no := 0, 0
	for range 8000 {
		a, b := wild(r), wild(r)
		turnOne(r, &b)
		bothWays(t, a, b)
		if mayBe(b) {
			yes++
		} else {
			no++
		}
	}
	if yes < 500 || no < 3000 {
		t.Errorf("%d may be, %d may not: the turns are too wild or too tame", yes, no)
	}
}

const mark = -77

// roomy is a tree in memory of its own, with spare room that is marked.
func roomy(x api.Tree) api.Tree {
	out := make([]api.Node, len(x.Nodes), len(x.Nodes)+3)
	for i := range out[:cap(out)] {
		out[:cap(out)][i] = api.Node{Id: mark, Kids: []int{mark}}
	}
	for i, n := range x.Nodes {
		kids := append(slices.Clone(n.Kids), mark, mark, mark)
		n.Kids = kids[:len(n.Kids)]
		out[i] = n
	}
	x.Nodes = out
	return x
}

// untouched: is a roomy tree as the one of which it was made, its spare room too?
func untouched(x, was api.Tree) bool {
	if !same(x, was) || x.Next != was.Next {
		return false
	}
	for _, n := range x.Nodes {
		if room := n.Kids[len(n.Kids) : len(n.Kids)+3]; !slices.Equal(room, []int{mark, mark, mark}) {
			return false
		}
	}
	for _, n := range x.Nodes[len(x.Nodes):cap(x.Nodes)] {
		if n.Id != mark || n.Kind != 0 || n.From != 0 || n.To != 0 || !slices.Equal(n.Kids, []int{mark}) {
			return false
		}
	}
	return true
}

// copyOf is steps in memory of their own.
func copyOf(ss []api.Step) []api.Step {
	ss = slices.Clone(ss)
	for i := range ss {
		ss[i].Kids = slices.Clone(ss[i].Kids)
	}
	return ss
}

// spoil writes over all that an answer holds, its spare room too.
func spoil(ss []api.Step) {
	ss = ss[:cap(ss)]
	for i := range ss {
		kids := ss[i].Kids[:cap(ss[i].Kids)]
		for j := range kids {
			kids[j] = -5
		}
		ss[i] = api.Step{Kind: -5, Id: -5, Node: -5, From: -5, To: -5, Kids: []int{-5}}
	}
}

// twos are two trees each, with steps of all sorts between them, and some that have none.
func twos() [][2]api.Tree {
	lean := base()
	node(&lean, 9).Kids, node(&lean, 41).Kids = []int{}, nil
	drop(&lean, 0, 2, 5, 11, 30, 49)
	put(&lean, nd(20, 'O', 8, 19, 21, 22))
	put(&lean, nd(21, 'A', 8, 9, 23))
	put(&lean, nd(22, 'A', 9, 9))
	put(&lean, nd(23, 'W', 8, 9))
	node(&lean, 41).Kids = []int{20}
	kind := base()
	node(&kind, 49).Kind = api.NodeWord
	form := base()
	node(&form, 49).To = 99
	return [][2]api.Tree{
		{base(), base()}, {base(), lean}, {lean, base()}, {base(), kind}, {base(), form}, {form, base()}, {base(), {}}, {base(), tree(3, nd(3, 'R', 0, 20))},
		{must("[1,2,3]"), renewed(must("[1,2,3]"), "[1,2,3]", "[[],1,{},3]")}, {must(""), renewed(must(""), "", `{"a":[1]}`)},
	}
}

// R4: what is handed in stays as it was, and what is answered shares no memory with it.
func TestLeavesWhatIsHandedIn(t *testing.T) {
	for i, two := range twos() {
		a, b := roomy(two[0]), roomy(two[1])
		got, e := delta.Between(a, b)
		if !untouched(a, two[0]) || !untouched(b, two[1]) {
			t.Fatalf("R4: row %d: changed: %s, %s", i, brief(a), brief(b))
		}
		was := copyOf(got)
		spoil(got)
		if !untouched(a, two[0]) || !untouched(b, two[1]) {
			t.Fatalf("R4: row %d: shared: %s, %s", i, brief(a), brief(b))
		}
		// Nor does a later answer hang on an earlier one, or the other way round.
		again, f := delta.Between(a, b)
		if e != f || !slices.EqualFunc(again, was, sameStep) {
			t.Fatalf("R5: row %d: %s, %d, then %s, %d", i, brief(written(was)), e, brief(written(again)), f)
		}
		third, _ := delta.Between(a, b)
		spoil(third)
		if !slices.EqualFunc(again, was, sameStep) {
			t.Fatalf("R4: row %d: two answers share: %s", i, brief(again))
		}
		for _, x := range []api.Tree{a, b} {
			for j := range x.Nodes {
				for k := range x.Nodes[j].Kids {
					x.Nodes[j].Kids[k] = -5
				}
				x.Nodes[j] = api.Node{Id: -5}
			}
		}
		if !slices.EqualFunc(again, was, sameStep) {
			t.Fatalf("R4: row %d: an answer hangs on what was handed in: %s", i, brief(again))
		}
	}
}

// R4: one tree twice, and two whose lists are one memory's.
func TestOneTreeTwice(t *testing.T) {
	x := roomy(base())
	if got, e := delta.Between(x, x); len(got) != 0 || e != api.OK || !untouched(x, base()) {
		t.Errorf("P14.1: %s, %d", written(got), e)
	}
	y := x
	y.Nodes = slices.Clone(x.Nodes)
	y.Nodes[3].To = 22
	if got, e := delta.Between(x, y); written(got) != "S6(0-22)" || e != api.OK || !untouched(x, base()) {
		t.Errorf("P14.1: %s, %d", written(got), e)
	}
	// All children of a are pieces of one list, and so are those of b: the answer's are not.
	all := []int{1, 2, 3}
	a := tree(0, nd(0, 'R', 0, 0))
	b := tree(0, nd(0, 'R', 0, 0), nd(1, 'A', 0, 0), nd(2, 'A', 0, 0), nd(3, 'A', 0, 0))
	for i := range all {
		b.Nodes[i].Kids = all[i : i+1]
	}
	spread(t, a, b)
}

// spread: do no two lists of one answer share memory, their spare room neither? Each is filled with a number of its own.
func spread(t *testing.T, a, b api.Tree) {
	t.Helper()
	got, e := delta.Between(a, b)
	if e != api.OK {
		t.Fatalf("P14.1: %d", e)
	}
	for i, step := range got {
		for j := range cap(step.Kids) {
			step.Kids[:cap(step.Kids)][j] = i
		}
	}
	for i, step := range got {
		for _, k := range step.Kids[:cap(step.Kids)] {
			if k != i {
				t.Fatalf("R4: the lists of steps %d and %d are one: %s", i, k, brief(written(got)))
			}
		}
	}
}

func TestListsOfOneAnswerAreTheirOwn(t *testing.T) {
	for _, two := range twos() {
		if _, e := plainly(two[0], two[1]); e == api.OK {
			spread(t, roomy(two[0]), roomy(two[1]))
		}
	}
	spread(t, wide(100, 1, 1, 9), deep(100, 5000, 1, 9))
}

// R4: a list of none any more is no piece of the one that was handed in.
func TestNoChildrenAreNobodysList(t *testing.T) {
	a := tree(0, nd(0, 'R', 0, 0, 1), nd(1, 'E', 0, 0))
	b := tree(0, nd(0, 'R', 0, 0))
	lead(t, "none any more", a, b, "D1 K0()", "C1=E K0(1) S1(0-0)")
	room := []int{7, 8, 9}
	b.Nodes[0].Kids = room[:0]
	got, e := delta.Between(a, b)
	if written(got) != "D1 K0()" || e != api.OK {
		t.Fatalf("P14.1: %s, %d", written(got), e)
	}
	if more := append(got[1].Kids, 1, 2, 3); !slices.Equal(room, []int{7, 8, 9}) || !slices.Equal(more, []int{1, 2, 3}) {
		t.Errorf("R4: %v", room)
	}
}

// R5: several call at one time.
func TestSeveralAtOneTime(t *testing.T) {
	all := twos()
	var wait sync.WaitGroup
	fail := make([]string, 8)
	for i := range fail {
		wait.Add(1)
		go func() {
			defer wait.Done()
			for range 200 {
				for _, two := range all {
					got, e := delta.Between(two[0], two[1])
					want, f := plainly(two[0], two[1])
					if e != f || !slices.EqualFunc(got, want, sameStep) {
						fail[i] = written(got)
					}
					spoil(got)
				}
			}
		}()
	}
	wait.Wait()
	for _, f := range fail {
		if f != "" {
			t.Errorf("R5: %s", f)
		}
	}
}
