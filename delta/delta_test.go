package delta_test

import (
	"fmt"
	"slices"
	"strings"
	"testing"

	"minuet/api"
	"minuet/delta"
	"minuet/parse"
	"minuet/renew"
)

// P14.1.
//
// Steps are written by letters and ids: "D3" drops 3, "C5=N" creates the number 5, "K1(2 5)" sets the children of 1, and
// "S5(3-4)" the span of 5. Kinds' letters are those of "ROAPTNWE".

const letters = "ROAPTNWE"

// brief is what a message shows of what may be long.
func brief(x any) string {
	s := fmt.Sprint(x)
	if len(s) > 600 {
		s = s[:600] + " .."
	}
	return s
}

// must is layer 11's tree of a text that has one.
func must(s string) api.Tree {
	t, e := parse.Parse(s)
	if e != api.OK {
		panic("no tree of " + s)
	}
	return t
}

// renewed is a text's tree with the ids of one of another text.
func renewed(x api.Tree, s, u string) api.Tree {
	y, e := renew.Renew(x, s, u)
	if e != api.OK {
		panic("no tree of " + s + " and " + u)
	}
	return y
}

// tree is a tree of some nodes, with Next just behind the last id.
func tree(root int, nodes ...api.Node) api.Tree {
	return api.Tree{Root: root, Next: nodes[len(nodes)-1].Id + 1, Nodes: nodes}
}

// nd is a node; its kind is a letter.
func nd(id int, kind byte, from, to int, kids ...int) api.Node {
	return api.Node{Id: id, Kind: strings.IndexByte(letters, kind), From: from, To: to, Kids: kids}
}

// sameStep: are two steps the same, an empty list and none being one?
func sameStep(a, b api.Step) bool {
	return a.Kind == b.Kind && a.Id == b.Id && a.Node == b.Node && a.From == b.From && a.To == b.To && slices.Equal(a.Kids, b.Kids)
}

// same: are two trees the same, but for Next?
func same(a, b api.Tree) bool {
	return a.Root == b.Root && slices.EqualFunc(a.Nodes, b.Nodes, func(x, y api.Node) bool {
		return x.Id == y.Id && x.Kind == y.Kind && x.From == y.From && x.To == y.To && slices.Equal(x.Kids, y.Kids)
	})
}

// written writes steps; what their kind does not name stands behind them, if it is not zero.
func written(ss []api.Step) string {
	var out []string
	for _, s := range ss {
		var w string
		switch s.Kind {
		case api.StepDrop:
			w = fmt.Sprintf("D%d", s.Id)
		case api.StepCreate:
			w = fmt.Sprintf("C%d=%c", s.Id, letters[s.Node])
			s.Node = 0
		case api.StepKids:
			w = fmt.Sprintf("K%d(%s)", s.Id, strings.Trim(fmt.Sprint(s.Kids), "[]"))
			s.Kids = nil
		case api.StepSpan:
			w = fmt.Sprintf("S%d(%d-%d)", s.Id, s.From, s.To)
			s.From, s.To = 0, 0
		default:
			w = fmt.Sprintf("?%d", s.Kind)
		}
		if s.Node != 0 || s.From != 0 || s.To != 0 || len(s.Kids) > 0 {
			w += fmt.Sprintf("?%v", s)
		}
		out = append(out, w)
	}
	return strings.Join(out, " ")
}

// nodes is a tree's nodes by their ids.
func nodes(x api.Tree) map[int]api.Node {
	m := map[int]api.Node{}
	for _, n := range x.Nodes {
		m[n.Id] = n
	}
	return m
}

// mayBe: may a tree be, as long as its root says?
func mayBe(x api.Tree) bool {
	root, is := nodes(x)[x.Root]
	return is && parse.May(x, root.To)
}

// plainly is the steps by the words of the chapter, each sort by itself.
func plainly(a, b api.Tree) ([]api.Step, api.Errno) {
	if !mayBe(a) || !mayBe(b) || a.Root != b.Root {
		return nil, api.ErrDeltaForm
	}
	was, now := nodes(a), nodes(b)
	var ids []int
	for id := range was {
		ids = append(ids, id)
	}
	for id := range now {
		if x, had := was[id]; !had {
			ids = append(ids, id)
		} else if x.Kind != now[id].Kind {
			return nil, api.ErrDeltaForm
		}
	}
	slices.Sort(ids)
	var out []api.Step
	for _, sort := range []func(id int, x, y api.Node, had, has bool){
		func(id int, x, y api.Node, had, has bool) {
			if had && !has {
				out = append(out, api.Step{Kind: 0, Id: id})
			}
		},
		func(id int, x, y api.Node, had, has bool) {
			if has && !had {
				out = append(out, api.Step{Kind: 1, Id: id, Node: y.Kind})
			}
		},
		func(id int, x, y api.Node, had, has bool) {
			if has && !slices.Equal(x.Kids, y.Kids) {
				out = append(out, api.Step{Kind: 2, Id: id, Kids: y.Kids})
			}
		},
		func(id int, x, y api.Node, had, has bool) {
			if has && (!had || x.From != y.From || x.To != y.To) {
				out = append(out, api.Step{Kind: 3, Id: id, From: y.From, To: y.To})
			}
		},
	} {
		for _, id := range ids {
			x, had := was[id]
			y, has := now[id]
			sort(id, x, y, had, has)
		}
	}
	return out, api.OK
}

// led is a tree behind steps, each taken by its own words.
func led(x api.Tree, ss []api.Step) api.Tree {
	m := nodes(x)
	for _, s := range ss {
		n, is := m[s.Id]
		if is == (s.Kind == api.StepCreate) {
			panic("a step of a node that is there, or is not")
		}
		switch s.Kind {
		case api.StepDrop:
			delete(m, s.Id)
			continue
		case api.StepCreate:
			n = api.Node{Id: s.Id, Kind: s.Node}
		case api.StepKids:
			n.Kids = s.Kids
		case api.StepSpan:
			n.From, n.To = s.From, s.To
		}
		m[s.Id] = n
	}
	out := api.Tree{Root: x.Root}
	for _, n := range m {
		out.Nodes = append(out.Nodes, n)
	}
	slices.SortFunc(out.Nodes, func(a, b api.Node) int { return a.Id - b.Id })
	return out
}

// right: are the steps between two trees as the words say, and lead from one to the other? They are told.
func right(t *testing.T, a, b api.Tree) []api.Step {
	t.Helper()
	got, e := delta.Between(a, b)
	want, f := plainly(a, b)
	if e != f || !slices.EqualFunc(got, want, sameStep) {
		t.Fatalf("P14.1: %s, %s: %s, %d, want %s, %d", brief(a), brief(b), brief(written(got)), e, brief(written(want)), f)
	}
	if e == api.OK && !same(led(a, got), b) {
		t.Fatalf("P14.1: %s, %s: %s lead to %s", brief(a), brief(b), brief(written(got)), brief(led(a, got)))
	}
	return got
}

// taken: are there steps, and the right ones?
func taken(t *testing.T, name string, a, b api.Tree) []api.Step {
	t.Helper()
	if _, e := plainly(a, b); e != api.OK {
		t.Fatalf("%s: the test is wrong", name)
	}
	return right(t, a, b)
}

// lead: are the steps between two trees, and those back, as written?
func lead(t *testing.T, name string, a, b api.Tree, there, back string) {
	t.Helper()
	if w := written(taken(t, name, a, b)); w != there {
		t.Errorf("P14.1: %s: %s, want %s", name, w, there)
	}
	if w := written(taken(t, name, b, a)); w != back {
		t.Errorf("P14.1: %s, back: %s, want %s", name, w, back)
	}
}

// samples are texts of each sort.
func samples() []string {
	return []string{
		"", " ", "//", "1", `"a"`, "null", "[]", "{}", "[1,2,3]", "[1,[2,[3]],4]", `{"a":1}`, `{"a":1,"b":[2,{"c":3}],"d":null}`,
		" [ 1 , 2 ] // x", "#", "1 2", "[1 2", "{1:2}", `{"a" "b",`, "]}:,", "[[[", "[,,]", `{"a"`, strings.Repeat("[", api.MaxDepth+1),
		"{" + strings.Repeat("0", api.MaxDoc-1), strings.Repeat(`{"":`, api.MaxDoc/4), strings.Repeat(" ", api.MaxDoc),
	}
}

// Two trees of one text, and one tree twice: no steps.
func TestNothingBetween(t *testing.T) {
	for _, s := range samples() {
		x := must(s)
		for _, y := range []api.Tree{x, must(s), renewed(x, s, s)} {
			if got, e := delta.Between(x, y); len(got) != 0 || e != api.OK {
				t.Errorf("P14.1: %q: %s, %d", s, brief(written(got)), e)
			}
		}
		right(t, x, must(s))
	}
	// Next is no node's: it makes no step, neither above nor below.
	a, b := must("[1]"), must("[1]")
	b.Next = api.MaxIds
	lead(t, "another Next", a, b, "", "")
	// An empty list and none are one.
	b.Nodes[2].Kids = []int{}
	lead(t, "an empty list", a, b, "", "")
}

// One thing turned, put in or cut out of a text, each tree renewed from the one ahead.
func TestOrdinarySteps(t *testing.T) {
	for _, c := range []struct{ s, u, there, back string }{
		// One value.
		{"1", "2", "", ""},
		{"1", "22", "S0(0-2) S1(0-2)", "S0(0-1) S1(0-1)"},
		{"1", "null", "D1 C2=W K0(2) S0(0-4) S2(0-4)", "D2 C1=N K0(1) S0(0-1) S1(0-1)"},
		{"[1,2,3]", "[1,9,3]", "", ""},
		{"[1,2,3]", "[11,2,3]", "S0(0-8) S1(0-8) S2(1-3) S3(4-5) S4(6-7)", "S0(0-7) S1(0-7) S2(1-2) S3(3-4) S4(5-6)"},
		{"[1,2,3]", "[1,2,33]", "S0(0-8) S1(0-8) S4(5-7)", "S0(0-7) S1(0-7) S4(5-6)"},
		{"[1,2,3]", `[1,"",3]`, "D3 C5=T K1(2 5 4) S0(0-8) S1(0-8) S4(6-7) S5(3-5)", "D5 C3=N K1(2 3 4) S0(0-7) S1(0-7) S3(3-4) S4(5-6)"},
		{`{"a":1}`, `{"a":[]}`, "D4 C5=A K2(3 5) S0(0-8) S1(0-8) S2(1-7) S5(5-7)", "D5 C4=N K2(3 4) S0(0-7) S1(0-7) S2(1-6) S4(5-6)"},
		{`{"a":1}`, `{"a":[2]}`, "D4 C5=A C6=N K2(3 5) K5(6) S0(0-9) S1(0-9) S2(1-8) S5(5-8) S6(6-7)", "D5 D6 C4=N K2(3 4) S0(0-7) S1(0-7) S2(1-6) S4(5-6)"},
		// One name.
		{`{"a":1}`, `{"b":1}`, "", ""},
		{`{"a":1}`, `{"ab":1}`, "S0(0-8) S1(0-8) S2(1-7) S3(1-5) S4(6-7)", "S0(0-7) S1(0-7) S2(1-6) S3(1-4) S4(5-6)"},
		{`{"a":1}`, `{0}`, "D2 D3 D4 C5=E C6=N K1(5) K5(6) S0(0-3) S1(0-3) S5(1-2) S6(1-2)", "D5 D6 C2=P C3=T C4=N K1(2) K2(3 4) S0(0-7) S1(0-7) S2(1-6) S3(1-4) S4(5-6)"},
		// One element put in, or, back, cut out: ahead, between, behind.
		{"[1,2,3]", "[9,1,2,3]", "C5=N K1(5 2 3 4) S0(0-9) S1(0-9) S2(3-4) S3(5-6) S4(7-8) S5(1-2)", "D5 K1(2 3 4) S0(0-7) S1(0-7) S2(1-2) S3(3-4) S4(5-6)"},
		{"[1,2,3]", "[1,9,2,3]", "C5=N K1(2 5 3 4) S0(0-9) S1(0-9) S3(5-6) S4(7-8) S5(3-4)", "D5 K1(2 3 4) S0(0-7) S1(0-7) S3(3-4) S4(5-6)"},
		{"[1,2,3]", "[1,2,3,9]", "C5=N K1(2 3 4 5) S0(0-9) S1(0-9) S5(7-8)", "D5 K1(2 3 4) S0(0-7) S1(0-7)"},
		{"[]", "[9]", "C2=N K1(2) S0(0-3) S1(0-3) S2(1-2)", "D2 K1() S0(0-2) S1(0-2)"},
		{`{"a":1}`, `{"a":1,"b":2}`, "C5=P C6=T C7=N K1(2 5) K5(6 7) S0(0-13) S1(0-13) S5(7-12) S6(7-10) S7(11-12)", "D5 D6 D7 K1(2) S0(0-7) S1(0-7)"},
		// Cut out by the text: the ids that stay are others than those put in.
		{"[1,2,3]", "[2,3]", "D2 K1(3 4) S0(0-5) S1(0-5) S3(1-2) S4(3-4)", "C2=N K1(2 3 4) S0(0-7) S1(0-7) S2(1-2) S3(3-4) S4(5-6)"},
		{"[1,2,3]", "[1,3]", "D3 K1(2 4) S0(0-5) S1(0-5) S4(3-4)", "C3=N K1(2 3 4) S0(0-7) S1(0-7) S3(3-4) S4(5-6)"},
		{"[1,2,3]", "[1,2]", "D4 K1(2 3) S0(0-5) S1(0-5)", "C4=N K1(2 3 4) S0(0-7) S1(0-7) S4(5-6)"},
		{"[1,2,3]", "[]", "D2 D3 D4 K1() S0(0-2) S1(0-2)", "C2=N C3=N C4=N K1(2 3 4) S0(0-7) S1(0-7) S2(1-2) S3(3-4) S4(5-6)"},
		// A change of spans alone.
		{"[1,2]", " [1,2]", "S0(0-6) S1(1-6) S2(2-3) S3(4-5)", "S0(0-5) S1(0-5) S2(1-2) S3(3-4)"},
		{"[1,2]", "[1,2] ", "S0(0-6)", "S0(0-5)"},
		{"[1,2]", "[1,2 ]", "S0(0-6) S1(0-6)", "S0(0-5) S1(0-5)"},
		{"[1 ,2]", "[1, 2]", "", ""},
		{"[12,3]", "[1,23]", "S2(1-2) S3(3-5)", "S2(1-3) S3(4-5)"},
		{"[1]", "[/**/1]", "S0(0-7) S1(0-7) S2(5-6)", "S0(0-3) S1(0-3) S2(1-2)"},
		// A change of children, with one node more, as long a text.
		{"[1 ]", "[1,]", "C3=E K1(2 3) S3(3-3)", "D3 K1(2)"},
		// Several at once.
		{"[1,[2],3]", "[11,[2,4],null,3]", "C6=N C7=W K1(2 3 7 5) K3(4 6) S0(0-17) S1(0-17) S2(1-3) S3(4-9) S4(5-6) S5(15-16) S6(7-8) S7(10-14)",
			"D6 D7 K1(2 3 5) K3(4) S0(0-9) S1(0-9) S2(1-2) S3(3-6) S4(4-5) S5(7-8)"},
		{"[1,[2],3]", "[[2],null,[4]]",
			"D2 D3 D4 D5 C6=A C7=N C8=W C9=A C10=N K1(6 8 9) K6(7) K9(10) S0(0-14) S1(0-14) S6(1-4) S7(2-3) S8(5-9) S9(10-13) S10(11-12)",
			"D6 D7 D8 D9 D10 C2=N C3=A C4=N C5=N K1(2 3 5) K3(4) S0(0-9) S1(0-9) S2(1-2) S3(3-6) S4(4-5) S5(7-8)"},
		// Errors are nodes too.
		{"[1", "[1]", "D3 K1(2) S0(0-3) S1(0-3)", "C3=E K1(2 3) S0(0-2) S1(0-2) S3(2-2)"},
		{"1", "1#", "C2=E K0(1 2) S0(0-2) S2(1-2)", "D2 K0(1) S0(0-1)"},
		{"1", "1 2", "C2=E C3=N K0(1 2) K2(3) S0(0-3) S2(2-3) S3(2-3)", "D2 D3 K0(1) S0(0-1)"},
		// From the empty text and to it: its tree has a lack.
		{"", "1", "D1 C2=N K0(2) S0(0-1) S2(0-1)", "D2 C1=E K0(1) S0(0-0) S1(0-0)"},
		{"", "[1]", "D1 C2=A C3=N K0(2) K2(3) S0(0-3) S2(0-3) S3(1-2)", "D2 D3 C1=E K0(1) S0(0-0) S1(0-0)"},
		{"", "#", "C2=E K0(2 1) S0(0-1) S1(1-1) S2(0-1)", "D2 K0(1) S0(0-0) S1(0-0)"},
		{"", " ", "S0(0-1) S1(1-1)", "S0(0-0) S1(0-0)"},
	} {
		a := must(c.s)
		lead(t, fmt.Sprintf("%q to %q", c.s, c.u), a, renewed(a, c.s, c.u), c.there, c.back)
	}
}

// base is a tree with ids that are not one behind the other, the root's between others, and a node of each kind.
func base() api.Tree {
	return tree(6,
		nd(0, 'N', 9, 12),
		nd(2, 'P', 3, 8, 30, 5),
		nd(5, 'W', 6, 8),
		nd(6, 'R', 0, 20, 9, 40),
		nd(9, 'O', 1, 8, 11, 2),
		nd(11, 'E', 2, 2),
		nd(30, 'T', 3, 6),
		nd(40, 'E', 8, 20, 41),
		nd(41, 'A', 8, 19, 0, 49),
		nd(49, 'E', 12, 12),
	)
}

// node is a node of a tree by its id.
func node(x *api.Tree, id int) *api.Node {
	return &x.Nodes[slices.IndexFunc(x.Nodes, func(n api.Node) bool { return n.Id == id })]
}

// put adds a node to a tree, at its place, and sets Next behind the last.
func put(x *api.Tree, n api.Node) {
	x.Nodes = append(x.Nodes, n)
	slices.SortFunc(x.Nodes, func(a, b api.Node) int { return a.Id - b.Id })
	x.Next = max(x.Next, n.Id+1)
}

// drop takes nodes out of a tree.
func drop(x *api.Tree, ids ...int) {
	x.Nodes = slices.DeleteFunc(x.Nodes, func(n api.Node) bool { return slices.Contains(ids, n.Id) })
}

// The base with something turned: the steps there, and back.
func TestEdges(t *testing.T) {
	for _, c := range []struct {
		name        string
		turn        func(x *api.Tree)
		there, back string
	}{
		{"nothing", func(x *api.Tree) {}, "", ""},
		{"From alone", func(x *api.Tree) { node(x, 0).From = 8 }, "S0(8-12)", "S0(9-12)"},
		{"To alone", func(x *api.Tree) { node(x, 0).To = 10 }, "S0(9-10)", "S0(9-12)"},
		{"To alone, with children", func(x *api.Tree) { node(x, 41).To = 20 }, "S41(8-20)", "S41(8-19)"},
		{"From alone, with children", func(x *api.Tree) { node(x, 9).From = 0 }, "S9(0-8)", "S9(1-8)"},
		{"a place alone", func(x *api.Tree) { node(x, 49).From, node(x, 49).To = 19, 19 }, "S49(19-19)", "S49(12-12)"},
		{"to a place of 0", func(x *api.Tree) {
			node(x, 9).From, node(x, 11).From, node(x, 11).To = 0, 0, 0
		}, "S9(0-8) S11(0-0)", "S9(1-8) S11(2-2)"},
		{"the root's To alone", func(x *api.Tree) { node(x, 6).To = 21 }, "S6(0-21)", "S6(0-20)"},
		{"the root's To at MaxLen", func(x *api.Tree) { node(x, 6).To = api.MaxLen }, "S6(0-4096)", "S6(0-20)"},
		{"spans of all kinds", func(x *api.Tree) {
			node(x, 0).To, node(x, 2).To, node(x, 5).To, node(x, 6).To, node(x, 9).From, node(x, 11).From, node(x, 30).To = 11, 7, 7, 30, 0, 1, 5
			node(x, 40).To, node(x, 41).To, node(x, 49).To = 29, 28, 27
		}, "S0(9-11) S2(3-7) S5(6-7) S6(0-30) S9(0-8) S11(1-2) S30(3-5) S40(8-29) S41(8-28) S49(12-27)",
			"S0(9-12) S2(3-8) S5(6-8) S6(0-20) S9(1-8) S11(2-2) S30(3-6) S40(8-20) S41(8-19) S49(12-12)"},
		{"one goes out of another", func(x *api.Tree) {
			node(x, 40).Kids, node(x, 41).Kids, node(x, 6).Kids = nil, []int{0, 49}, []int{9, 41, 40}
			node(x, 40).From = 20
		}, "K6(9 41 40) K40() S40(20-20)", "K6(9 40) K40(41) S40(8-20)"},
		{"from one node to another one", func(x *api.Tree) {
			node(x, 9).Kids, node(x, 6).Kids = []int{2}, []int{11, 9, 40}
			node(x, 9).From = 2
		}, "K6(11 9 40) K9(2) S9(2-8)", "K6(9 40) K9(11 2) S9(1-8)"},
		{"a node comes with children", func(x *api.Tree) {
			put(x, nd(20, 'A', 12, 19, 49))
			node(x, 41).Kids = []int{0, 20}
		}, "C20=A K20(49) K41(0 20) S20(12-19)", "D20 K41(0 49)"},
		{"a node comes without any", func(x *api.Tree) {
			put(x, nd(20, 'A', 12, 19))
			node(x, 41).Kids = []int{0, 49, 20}
		}, "C20=A K41(0 49 20) S20(12-19)", "D20 K41(0 49)"},
		{"a node comes with an empty list", func(x *api.Tree) {
			put(x, api.Node{Id: 20, Kind: api.NodeError, From: 13, To: 14, Kids: []int{}})
			node(x, 41).Kids = []int{0, 49, 20}
		}, "C20=E K41(0 49 20) S20(13-14)", "D20 K41(0 49)"},
		{"a node comes with a new one", func(x *api.Tree) {
			put(x, nd(20, 'P', 12, 19, 10))
			put(x, nd(10, 'W', 13, 13))
			node(x, 41).Kids = []int{0, 49, 20}
		}, "C10=W C20=P K20(10) K41(0 49 20) S10(13-13) S20(12-19)", "D10 D20 K41(0 49)"},
		{"one comes from 0 to 0", func(x *api.Tree) {
			put(x, nd(20, 'E', 0, 0))
			node(x, 6).Kids = []int{20, 9, 40}
		}, "C20=E K6(20 9 40) S20(0-0)", "D20 K6(9 40)"},
		{"ahead of all ids, behind all, and between", func(x *api.Tree) {
			drop(x, 0)
			put(x, nd(1, 'N', 9, 12))
			put(x, nd(700, 'O', 15, 16))
			put(x, nd(48, 'W', 16, 17))
			node(x, 41).Kids = []int{1, 49, 700, 48}
		}, "D0 C1=N C48=W C700=O K41(1 49 700 48) S1(9-12) S48(16-17) S700(15-16)", "D1 D48 D700 C0=N K41(0 49) S0(9-12)"},
		{"the last id", func(x *api.Tree) {
			put(x, nd(api.MaxIds-1, 'T', 15, 16))
			node(x, 41).Kids = []int{0, 49, api.MaxIds - 1}
		}, "C16777215=T K41(0 49 16777215) S16777215(15-16)", "D16777215 K41(0 49)"},
		{"more children, of those that were there", func(x *api.Tree) {
			node(x, 9).Kids, node(x, 2).Kids, node(x, 2).To = []int{11, 2, 5}, []int{30}, 6
		}, "K2(30) K9(11 2 5) S2(3-6)", "K2(30 5) K9(11 2) S2(3-8)"},
		{"children where none were", func(x *api.Tree) {
			node(x, 41).Kids, node(x, 49).Kids, node(x, 49).From, node(x, 49).To = []int{49}, []int{0}, 9, 12
		}, "K41(49) K49(0) S49(9-12)", "K41(0 49) K49() S49(12-12)"},
		{"none any more, all below gone", func(x *api.Tree) {
			node(x, 9).Kids = nil
			drop(x, 11, 2, 30, 5)
		}, "D2 D5 D11 D30 K9()", "C2=P C5=W C11=E C30=T K2(30 5) K9(11 2) S2(3-8) S5(6-8) S11(2-2) S30(3-6)"},
		{"an empty list instead of children", func(x *api.Tree) {
			node(x, 41).Kids = []int{}
			drop(x, 0, 49)
		}, "D0 D49 K41()", "C0=N C49=E K41(0 49) S0(9-12) S49(12-12)"},
		{"the root alone is left", func(x *api.Tree) {
			node(x, 6).Kids = nil
			drop(x, 0, 2, 5, 9, 11, 30, 40, 41, 49)
		}, "D0 D2 D5 D9 D11 D30 D40 D41 D49 K6()",
			"C0=N C2=P C5=W C9=O C11=E C30=T C40=E C41=A C49=E K2(30 5) K6(9 40) K9(11 2) K40(41) K41(0 49)" +
				" S0(9-12) S2(3-8) S5(6-8) S9(1-8) S11(2-2) S30(3-6) S40(8-20) S41(8-19) S49(12-12)"},
		{"all but the root are others", func(x *api.Tree) {
			*x = tree(6, nd(1, 'A', 0, 3), nd(6, 'R', 0, 5, 1, 7), nd(7, 'T', 4, 5))
		}, "D0 D2 D5 D9 D11 D30 D40 D41 D49 C1=A C7=T K6(1 7) S1(0-3) S6(0-5) S7(4-5)",
			"D1 D7 C0=N C2=P C5=W C9=O C11=E C30=T C40=E C41=A C49=E K2(30 5) K6(9 40) K9(11 2) K40(41) K41(0 49)" +
				" S0(9-12) S2(3-8) S5(6-8) S6(0-20) S9(1-8) S11(2-2) S30(3-6) S40(8-20) S41(8-19) S49(12-12)"},
	} {
		x := base()
		c.turn(&x)
		lead(t, c.name, base(), x, c.there, c.back)
	}
}

// Children that are the same ones, in another row: they have no length, so that each row may be.
func TestChildrenInAnotherRow(t *testing.T) {
	row := func(kids ...int) api.Tree {
		return tree(0, nd(0, 'R', 0, 4, 7), nd(2, 'E', 1, 1), nd(3, 'E', 1, 1), nd(5, 'T', 1, 1), nd(7, 'O', 0, 4, kids...))
	}
	for _, kids := range [][]int{{2, 3, 5}, {2, 5, 3}, {3, 2, 5}, {3, 5, 2}, {5, 2, 3}, {5, 3, 2}} {
		there := fmt.Sprintf("K7(%d %d %d)", kids[0], kids[1], kids[2])
		back := "K7(2 3 5)"
		if kids[0] == 2 && kids[1] == 3 {
			there, back = "", ""
		}
		lead(t, "another row", row(2, 3, 5), row(kids...), there, back)
	}
	// Two of the root's.
	a := tree(1, nd(0, 'E', 0, 0), nd(1, 'R', 0, 0, 0, 2), nd(2, 'E', 0, 0))
	b := tree(1, nd(0, 'E', 0, 0), nd(1, 'R', 0, 0, 2, 0), nd(2, 'E', 0, 0))
	lead(t, "another row of the root's", a, b, "K1(2 0)", "K1(0 2)")
	// One more, one less, at each place, and one for another one.
	fours := func(kids ...int) api.Tree {
		x := tree(0, nd(0, 'R', 0, 0, kids...), nd(1, 'E', 0, 0), nd(2, 'E', 0, 0), nd(3, 'E', 0, 0), nd(4, 'A', 0, 0))
		for _, id := range []int{1, 2, 3, 4} {
			if !slices.Contains(kids, id) {
				drop(&x, id)
			}
		}
		return x
	}
	lead(t, "one more ahead", fours(2, 3), fours(1, 2, 3), "C1=E K0(1 2 3) S1(0-0)", "D1 K0(2 3)")
	lead(t, "one more between", fours(1, 3), fours(1, 2, 3), "C2=E K0(1 2 3) S2(0-0)", "D2 K0(1 3)")
	lead(t, "one more behind", fours(1, 2), fours(1, 2, 4), "C4=A K0(1 2 4) S4(0-0)", "D4 K0(1 2)")
	lead(t, "one for another one", fours(1, 2, 3), fours(1, 4, 3), "D2 C4=A K0(1 4 3) S4(0-0)", "D4 C2=E K0(1 2 3) S2(0-0)")
	lead(t, "turned, and one for another one", fours(3, 2, 1), fours(1, 4, 3), "D2 C4=A K0(1 4 3) S4(0-0)", "D4 C2=E K0(3 2 1) S2(0-0)")
}

// A root alone, whatever its id, its length and Next are.
func TestRootsAlone(t *testing.T) {
	for _, id := range []int{0, 1, 77, api.MaxIds - 1} {
		for _, size := range []int{0, 1, api.MaxDoc, api.MaxDoc + 1, api.MaxLen} {
			a, b := tree(id, nd(id, 'R', 0, 3)), tree(id, nd(id, 'R', 0, size))
			lead(t, "a root alone", a, b, fmt.Sprintf("S%d(0-%d)", id, size), fmt.Sprintf("S%d(0-3)", id))
			b.Next = api.MaxIds
			lead(t, "another Next", a, b, fmt.Sprintf("S%d(0-%d)", id, size), fmt.Sprintf("S%d(0-3)", id))
		}
	}
}

// A node of each kind comes, and goes.
func TestEachKind(t *testing.T) {
	for _, letter := range []byte(letters[1:]) {
		a := tree(3, nd(3, 'R', 0, 9))
		b := tree(3, nd(3, 'R', 0, 9, 4), nd(4, letter, 2, 7))
		lead(t, string(letter), a, b, fmt.Sprintf("C4=%c K3(4) S4(2-7)", letter), "D4 K3()")
	}
}

// wide is a tree of n nodes: a root and its children, with ids from first on, each so many behind the one ahead.
func wide(n, first, by, size int) api.Tree {
	x := tree(0, nd(0, 'R', 0, size))
	for i := range n - 1 {
		x.Nodes[0].Kids = append(x.Nodes[0].Kids, first+by*i)
		x.Nodes = append(x.Nodes, nd(first+by*i, 'E', min(i, size), min(i+1, size)))
	}
	x.Next = api.MaxIds
	return x
}

// deep is a tree of n nodes, each the only child of the one ahead.
func deep(n, first, by, size int) api.Tree {
	x := wide(n, first, by, size)
	for i := range x.Nodes {
		x.Nodes[i].From, x.Nodes[i].To, x.Nodes[i].Kids = 0, size, nil
		if i+1 < n {
			x.Nodes[i].Kids = []int{x.Nodes[i+1].Id}
		}
	}
	return x
}

// The most nodes: all the same, none the same but the root, every second one.
func TestUpToMaxNodes(t *testing.T) {
	const n = api.MaxNodes
	var all []api.Tree
	for _, make := range []func(n, first, by, size int) api.Tree{wide, deep} {
		all = append(all, make(n, 1, 1, 0), make(n, 1, 1, api.MaxLen), make(n, 1, 2, 7), make(n, api.MaxIds-n+1, 1, n), make(n-1, 1, 1, 0), make(1, 1, 1, 5))
	}
	for _, a := range all {
		for _, b := range all {
			if got := taken(t, "many nodes", a, b); len(got) > 4*api.MaxNodes {
				t.Errorf("P14.1: %d steps", len(got))
			}
		}
	}
	if got := right(t, wide(n, 1, 1, 0), wide(n, 5000, 1, n)); len(got) != (n-1)+(n-1)+1+n {
		t.Errorf("P14.1: %d steps of others, side by side", len(got))
	}
	if got := right(t, wide(n, 1, 1, 0), deep(n, 5000, 1, n)); len(got) != (n-1)+(n-1)+(n-1)+n {
		t.Errorf("P14.1: %d steps of others, one below the other", len(got))
	}
}
