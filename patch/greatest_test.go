package patch_test

import (
	"slices"
	"testing"

	"minuet/api"
	"minuet/delta"
	"minuet/patch"
	"minuet/step"
)

// P15.1 at the greatest numbers that may be, and one more.

// wide is a tree of n nodes: a root and its children, with ids from first on, each so many behind the one ahead.
func wide(n, first, by, size int) api.Tree {
	x := tree(0, nd(0, 'R', 0, size))
	for i := range n - 1 {
		x.Nodes[0].Kids = append(x.Nodes[0].Kids, first+by*i)
		x.Nodes = append(x.Nodes, nd(first+by*i, 'E', min(i, size), min(i+1, size)))
	}
	x.Next = x.Nodes[n-1].Id + 1
	return x
}

// deep is a tree of n nodes, each the only child of the one ahead.
func deep(n, first, by, size int) api.Tree {
	x := wide(n, first, by, size)
	for i := range x.Nodes {
		x.Nodes[i].From, x.Nodes[i].To, x.Nodes[i].Kids = 0, size, nil
		if i+1 < n {
			x.Nodes[i].Kids = []int{x.Nodes[i+1].Id}
		}
	}
	return x
}

// anew is the steps that put a tree's nodes, behind those that take away another one's.
func anew(was, now api.Tree) []api.Step {
	var ss []api.Step
	for _, n := range was.Nodes {
		ss = append(ss, api.Step{Kind: api.StepDrop, Id: n.Id})
	}
	for _, n := range now.Nodes {
		ss = append(ss, api.Step{Kind: api.StepCreate, Id: n.Id, Node: n.Kind})
		ss = append(ss, api.Step{Kind: api.StepKids, Id: n.Id, Kids: n.Kids})
		ss = append(ss, api.Step{Kind: api.StepSpan, Id: n.Id, From: n.From, To: n.To})
	}
	return ss
}

// As many steps as may be, of each sort, and one more.
func TestUpToMostSteps(t *testing.T) {
	const most = 4 * api.MaxNodes
	if step.Most != most {
		t.Fatalf("P15.1: %d steps", step.Most)
	}
	for _, pair := range []string{"S0(9-11) S0(9-12)", "K41() K41(0 49)", "C50=E D50", "D0 C0=N", "K41(49) S49(9-9)"} {
		ss := slices.Repeat(steps(pair), most/2)
		right(t, pair, base(), ss, baseSize)
		right(t, pair, base(), ss[1:], baseSize)
		refused(t, pair, base(), append(ss, ss[0]), baseSize)
		refused(t, pair, base(), append(ss, steps("S0(9-12)")...), baseSize)
	}
	last := steps("S0(9-12)")
	taken(t, "the most", base(), slices.Repeat(last, most), baseSize)
	for _, more := range []int{1, 2, most, 100 * most} {
		refused(t, "too many", base(), slices.Repeat(last, most+more), baseSize)
	}
	// The last of them counts.
	ss := slices.Repeat(last, most)
	ss[most-1] = steps("S0(9-11)")[0]
	if got := taken(t, "the last", base(), ss, baseSize); got.Nodes[0].To != 11 {
		t.Errorf("P15.1: %s", shown(got))
	}
	// Too many beside another error.
	refused(t, "too many, upon no tree", api.Tree{}, slices.Repeat(last, most+1), 0)
	refused(t, "too many, of no kind", base(), slices.Repeat([]api.Step{{Kind: -1}}, most+1), baseSize)
}

// The most nodes: from each of such trees to each other one.
func TestUpToMaxNodes(t *testing.T) {
	const n = api.MaxNodes
	all := []api.Tree{
		wide(n, 1, 1, 0), wide(n, 1, 1, n), wide(n, 1, 2, 7), wide(n, api.MaxIds-n+1, 1, api.MaxLen), wide(n-1, 1, 1, 0), wide(1, 1, 1, 5),
		deep(n, 1, 1, 0), deep(n, 1, 2, api.MaxLen), deep(n, api.MaxIds-n+1, 1, n),
	}
	for _, a := range all {
		for _, b := range all {
			ss := anew(a, b)
			want := copyOf(b)
			want.Next = max(a.Next, b.Next)
			if got := taken(t, "many nodes", a, ss, size(b)); !same(got, want) {
				t.Errorf("P15.1: %s, want %s", brief(shown(got)), brief(shown(want)))
			}
			refused(t, "many nodes", a, ss, size(b)+1)
		}
	}
	// One node more is too many, though each step may be.
	one := wide(1, 1, 1, 0)
	for _, x := range []api.Tree{wide(n+1, 1, 1, 0), deep(n+1, 1, 1, 0), wide(n+100, 1, 1, 9)} {
		refused(t, "too many", one, anew(one, x), size(x))
	}
	for _, x := range []api.Tree{wide(n, 1, 1, 0), wide(n, 1, 1, n), deep(n, 1, 1, n)} {
		more := []api.Step{{Kind: api.StepCreate, Id: 5000, Node: api.NodeError}, {Kind: api.StepKids, Id: x.Nodes[n-1].Id, Kids: []int{5000}}, {Kind: api.StepSpan, Id: 5000, From: size(x), To: size(x)}}
		refused(t, "one too many", x, more, size(x))
		drop(&x, x.Nodes[n-1].Id)
		for i, node := range x.Nodes {
			x.Nodes[i].Kids = slices.DeleteFunc(slices.Clone(node.Kids), func(id int) bool { return id == n-1 })
		}
		more[1].Id = x.Nodes[n-2].Id
		more[2].From, more[2].To = x.Nodes[n-2].To, x.Nodes[n-2].To
		taken(t, "the last that may be", x, more, size(x))
	}
}

// Between the steps there may be as many nodes as one likes: only those behind all of them count.
func TestManyNodesBetween(t *testing.T) {
	var ss, back []api.Step
	for id := range 2 * api.MaxNodes {
		ss = append(ss, api.Step{Kind: api.StepCreate, Id: 100 + id, Node: id % 8})
		back = append(back, api.Step{Kind: api.StepDrop, Id: 100 + id})
	}
	want := base()
	want.Next = 100 + 2*api.MaxNodes
	if got := taken(t, "many and none", base(), slices.Concat(ss, back), baseSize); !same(got, want) {
		t.Errorf("P15.1: %s", brief(shown(got)))
	}
	refused(t, "one is left", base(), slices.Concat(ss, back[1:]), baseSize)
	refused(t, "all are left", base(), ss, baseSize)
	// None at all, too.
	if got := taken(t, "none, then all", base(), anew(base(), base()), baseSize); !same(got, base()) {
		t.Errorf("P15.1: %s", shown(got))
	}
	refused(t, "none", base(), anew(base(), api.Tree{}), baseSize)
	refused(t, "none, no length", base(), anew(base(), api.Tree{}), 0)
}

// The greatest lists of children: of MaxNodes ids none may be behind all, but between the steps.
func TestManyChildren(t *testing.T) {
	const n = api.MaxNodes
	kids := func(count, first int) []api.Step {
		s := api.Step{Kind: api.StepKids, Id: 0}
		for i := range count {
			s.Kids = append(s.Kids, first+i)
		}
		return []api.Step{s}
	}
	x := wide(n, 1, 1, 0)
	taken(t, "the most there are", x, kids(n-1, 1), 0)
	refused(t, "one less", x, kids(n-2, 1), 0)
	refused(t, "one that is none", x, kids(n, 1), 0)
	for _, first := range []int{0, 1, 9000, api.MaxIds - n} {
		taken(t, "the most, and again", x, slices.Concat(kids(n, first), kids(n-1, 1)), 0)
	}
	refused(t, "one at MaxIds, and again", x, slices.Concat(kids(n, api.MaxIds-n+1), kids(n-1, 1)), 0)
	refused(t, "one more than the most, and again", x, slices.Concat(kids(n+1, 1), kids(n-1, 1)), 0)
	refused(t, "far more, and again", x, slices.Concat(kids(1000000, 1), kids(n-1, 1)), 0)
	// As many steps as may be with as many children as may be: most of them are nobody's.
	many := slices.Repeat(kids(n, 1), 4*n)
	refused(t, "all of it", x, many, 0)
	many[4*n-1] = kids(n-1, 1)[0]
	taken(t, "all of it, and again", x, many, 0)
	// And each of another node.
	y := wide(n, 1, 1, 0)
	for i := range n {
		many[i] = kids(n, 1)[0]
		many[i].Id = i
	}
	refused(t, "each has all", y, many[:n], 0)
	for i := range n {
		many[n+i] = api.Step{Kind: api.StepCreate, Id: 5000 + i, Node: api.NodeArray}
		many[2*n+i] = kids(n, 1)[0]
		many[2*n+i].Id = 5000 + i
	}
	refused(t, "too many nodes, each has all", y, many[:3*n], 0)
}

// The last id, and the longest span.
func TestTheLastIdAndTheLongestSpan(t *testing.T) {
	x := tree(0, nd(0, 'R', 0, 3))
	lead(t, "the last id", x, "C16777215=A K0(16777215) S16777215(0-3)", 3, "0 16777216: 0R0-3(16777215) 16777215A0-3()")
	refused(t, "behind the last", x, steps("C16777216=A K0(16777216) S16777216(0-3)"), 3)
	lead(t, "the longest span", x, "C1=A K0(1) S1(0-4096) S0(0-4096)", api.MaxLen, "0 2: 0R0-4096(1) 1A0-4096()")
	lead(t, "the last place", x, "C1=A K0(1) S1(4096-4096) S0(0-4096)", api.MaxLen, "0 2: 0R0-4096(1) 1A4096-4096()")
	refused(t, "a longer one", x, steps("S0(0-4097)"), api.MaxLen+1)
	refused(t, "a longer one, and again", x, steps("S0(0-4097) S0(0-3)"), 3)
	last := tree(api.MaxIds-1, nd(api.MaxIds-1, 'R', 0, 3))
	lead(t, "the root's the last id", last, "C5=T S5(1-2) K16777215(5)", 3, "16777215 16777216: 5T1-2() 16777215R0-3(5)")
}

// Layer 14's steps between trees of the most nodes are no more than may be.
func TestDeltasOfMaxNodes(t *testing.T) {
	const n = api.MaxNodes
	a, b := deep(n, 1, 1, 0), deep(n, 5000, 1, n)
	ss, e := delta.Between(a, b)
	if e != api.OK || len(ss) > step.Most || len(ss) < step.Most-8 {
		t.Fatalf("P14.1: %d steps, %d", len(ss), e)
	}
	if got, e := patch.Apply(a, ss, n); e != api.OK || !same(got, b) {
		t.Errorf("P15.2: %s, %d", brief(shown(got)), e)
	}
}
