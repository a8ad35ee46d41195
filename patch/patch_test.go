package patch_test

import (
	"fmt"
	"regexp"
	"slices"
	"strconv"
	"strings"
	"testing"

	"minuet/api"
	"minuet/parse"
	"minuet/patch"
	"minuet/renew"
)

// P15.1.
//
// Steps are written by letters and ids: "D3" drops 3, "C5=N" puts the number 5, "K1(2 5)" sets the children of 1, and
// "S5(3-4)" the span of 5. Trees are written by root and Next, then by nodes: "0 5: 0R0-7(1) 1T2-5()". Kinds' letters
// are those of "ROAPTNWE".

const letters = "ROAPTNWE"

// brief is what a message shows of what may be long.
func brief(x any) string {
	s := fmt.Sprint(x)
	if len(s) > 600 {
		s = s[:600] + " .."
	}
	return s
}

// must is layer 11's tree of a text that has one.
func must(s string) api.Tree {
	t, e := parse.Parse(s)
	if e != api.OK {
		panic("no tree of " + s)
	}
	return t
}

// renewed is a text's tree with the ids of one of another text.
func renewed(x api.Tree, s, u string) api.Tree {
	y, e := renew.Renew(x, s, u)
	if e != api.OK {
		panic("no tree of " + s + " and " + u)
	}
	return y
}

// tree is a tree of some nodes, with Next just behind the last id.
func tree(root int, nodes ...api.Node) api.Tree {
	return api.Tree{Root: root, Next: nodes[len(nodes)-1].Id + 1, Nodes: nodes}
}

// nd is a node; its kind is a letter.
func nd(id int, kind byte, from, to int, kids ...int) api.Node {
	return api.Node{Id: id, Kind: strings.IndexByte(letters, kind), From: from, To: to, Kids: kids}
}

// base is a tree with ids that are not one behind the other, the root's between others, and a node of each kind.
func base() api.Tree {
	return tree(6,
		nd(0, 'N', 9, 12),
		nd(2, 'P', 3, 8, 30, 5),
		nd(5, 'W', 6, 8),
		nd(6, 'R', 0, 20, 9, 40),
		nd(9, 'O', 1, 8, 11, 2),
		nd(11, 'E', 2, 2),
		nd(30, 'T', 3, 6),
		nd(40, 'E', 8, 20, 41),
		nd(41, 'A', 8, 19, 0, 49),
		nd(49, 'E', 12, 12),
	)
}

const baseSize = 20

// node is a node of a tree by its id.
func node(x *api.Tree, id int) *api.Node {
	return &x.Nodes[slices.IndexFunc(x.Nodes, func(n api.Node) bool { return n.Id == id })]
}

// put adds a node to a tree, at its place, and sets Next behind the last.
func put(x *api.Tree, n api.Node) {
	x.Nodes = append(x.Nodes, n)
	slices.SortFunc(x.Nodes, func(a, b api.Node) int { return a.Id - b.Id })
	x.Next = max(x.Next, n.Id+1)
}

// drop takes nodes out of a tree.
func drop(x *api.Tree, ids ...int) {
	x.Nodes = slices.DeleteFunc(x.Nodes, func(n api.Node) bool { return slices.Contains(ids, n.Id) })
}

// numbers are those that stand in a text.
func numbers(s string) []int {
	var out []int
	for _, w := range strings.Fields(s) {
		n, err := strconv.Atoi(w)
		if err != nil {
			panic("no number: " + w)
		}
		out = append(out, n)
	}
	return out
}

var stepForm = regexp.MustCompile(`^(?:(D)(-?\d+)|(C)(-?\d+)=(.)|(K)(-?\d+)\(([-\d ]*)\)|(S)(-?\d+)\((-?\d+)-(-?\d+)\))(?: |$)`)

// steps are those that are written.
func steps(s string) []api.Step {
	var out []api.Step
	for s != "" {
		m := stepForm.FindStringSubmatch(s)
		if m == nil {
			panic("no step: " + s)
		}
		s = s[len(m[0]):]
		switch {
		case m[1] != "":
			out = append(out, api.Step{Kind: api.StepDrop, Id: numbers(m[2])[0]})
		case m[3] != "":
			out = append(out, api.Step{Kind: api.StepCreate, Id: numbers(m[4])[0], Node: strings.Index(letters, m[5])})
		case m[6] != "":
			out = append(out, api.Step{Kind: api.StepKids, Id: numbers(m[7])[0], Kids: numbers(m[8])})
		default:
			out = append(out, api.Step{Kind: api.StepSpan, Id: numbers(m[10])[0], From: numbers(m[11])[0], To: numbers(m[12])[0]})
		}
	}
	return out
}

// shown writes a tree.
func shown(x api.Tree) string {
	out := fmt.Sprintf("%d %d:", x.Root, x.Next)
	for _, n := range x.Nodes {
		letter := "?"
		if n.Kind >= 0 && n.Kind < len(letters) {
			letter = letters[n.Kind : n.Kind+1]
		}
		out += fmt.Sprintf(" %d%s%d-%d(%s)", n.Id, letter, n.From, n.To, strings.Trim(fmt.Sprint(n.Kids), "[]"))
	}
	return out
}

// same: are two trees the same, an empty list and none being one?
func same(a, b api.Tree) bool {
	return a.Root == b.Root && a.Next == b.Next && slices.EqualFunc(a.Nodes, b.Nodes, func(x, y api.Node) bool {
		return x.Id == y.Id && x.Kind == y.Kind && x.From == y.From && x.To == y.To && slices.Equal(x.Kids, y.Kids)
	})
}

// copyOf is a tree in memory of its own.
func copyOf(x api.Tree) api.Tree {
	x.Nodes = slices.Clone(x.Nodes)
	for i := range x.Nodes {
		x.Nodes[i].Kids = append([]int(nil), x.Nodes[i].Kids...)
	}
	return x
}

// size is how long a tree's root says that its text is, or -1.
func size(x api.Tree) int {
	for _, n := range x.Nodes {
		if n.Id == x.Root {
			return n.To
		}
	}
	return -1
}

// mayBe: may a tree be, as long as its root says?
func mayBe(x api.Tree) bool {
	return parse.May(x, size(x))
}

// plainStep: may a step be, by the words of the chapter?
func plainStep(s api.Step) bool {
	for _, id := range append([]int{s.Id}, s.Kids...) {
		if id < 0 || id >= api.MaxIds {
			return false
		}
	}
	if len(s.Kids) > api.MaxNodes || s.From < 0 || s.From > s.To || s.To > api.MaxLen || s.Node < 0 || s.Node > api.NodeError {
		return false
	}
	spans, kids, kind := s.From != 0 || s.To != 0, len(s.Kids) > 0, s.Node != 0
	switch s.Kind {
	case api.StepDrop:
		return !spans && !kids && !kind
	case api.StepCreate:
		return !spans && !kids
	case api.StepKids:
		return !spans && !kind
	case api.StepSpan:
		return !kids && !kind
	}
	return false
}

// plainly is the tree behind steps by the words of the chapter: a list, in which each step looks for its node.
func plainly(x api.Tree, ss []api.Step, size int) (api.Tree, api.Errno) {
	if !mayBe(x) || len(ss) > 4*api.MaxNodes {
		return api.Tree{}, api.ErrPatchForm
	}
	x = copyOf(x)
	for _, s := range ss {
		at, there := slices.BinarySearchFunc(x.Nodes, s.Id, func(n api.Node, id int) int { return n.Id - id })
		switch {
		case !plainStep(s) || there == (s.Kind == api.StepCreate):
			return api.Tree{}, api.ErrPatchForm
		case s.Kind == api.StepDrop:
			x.Nodes = slices.Delete(x.Nodes, at, at+1)
		case s.Kind == api.StepCreate:
			x.Nodes = slices.Insert(x.Nodes, at, api.Node{Id: s.Id, Kind: s.Node})
			if x.Next <= s.Id {
				x.Next = s.Id + 1
			}
		case s.Kind == api.StepKids:
			x.Nodes[at].Kids = s.Kids
		default:
			x.Nodes[at].From, x.Nodes[at].To = s.From, s.To
		}
	}
	if !parse.May(x, size) {
		return api.Tree{}, api.ErrPatchForm
	}
	return x, api.OK
}

// right: is the answer as the words say? It is told.
func right(t *testing.T, name string, x api.Tree, ss []api.Step, size int) (api.Tree, api.Errno) {
	t.Helper()
	got, e := patch.Apply(x, ss, size)
	want, f := plainly(x, ss, size)
	if e != f || !same(got, want) || e != api.OK && got.Nodes != nil {
		t.Fatalf("P15.1: %s: %s, %s, %d: %s, %d, want %s, %d", name, brief(shown(x)), brief(ss), size, brief(shown(got)), e, brief(shown(want)), f)
	}
	return got, e
}

// taken: is there a tree, and the right one?
func taken(t *testing.T, name string, x api.Tree, ss []api.Step, size int) api.Tree {
	t.Helper()
	got, e := right(t, name, x, ss, size)
	if e != api.OK {
		t.Fatalf("%s: the test is wrong", name)
	}
	return got
}

// refused: is there no tree?
func refused(t *testing.T, name string, x api.Tree, ss []api.Step, size int) {
	t.Helper()
	if _, e := right(t, name, x, ss, size); e == api.OK {
		t.Fatalf("%s: the test is wrong", name)
	}
}

// lead: do written steps lead from a tree to a written one?
func lead(t *testing.T, name string, x api.Tree, ss string, size int, want string) {
	t.Helper()
	if got := shown(taken(t, name, x, steps(ss), size)); got != want {
		t.Errorf("P15.1: %s: %s: %s, want %s", name, ss, got, want)
	}
}

// samples are texts of each sort.
func samples() []string {
	return []string{
		"", " ", "//", "1", `"a"`, "null", "[]", "{}", "[1,2,3]", "[1,[2,[3]],4]", `{"a":1}`, `{"a":1,"b":[2,{"c":3}],"d":null}`,
		" [ 1 , 2 ] // x", "#", "1 2", "[1 2", "{1:2}", `{"a" "b",`, "]}:,", "[[[", "[,,]", `{"a"`, strings.Repeat("[", api.MaxDepth+1),
		"{" + strings.Repeat("0", api.MaxDoc-1), strings.Repeat(`{"":`, api.MaxDoc/4), strings.Repeat(" ", api.MaxDoc),
	}
}

func TestNoSteps(t *testing.T) {
	for _, s := range samples() {
		for _, ss := range [][]api.Step{nil, {}} {
			if got := taken(t, s, must(s), ss, len(s)); !same(got, must(s)) {
				t.Errorf("P15.1: %q: %s", s, brief(shown(got)))
			}
		}
	}
	const all = "0N9-12() 2P3-8(30 5) 5W6-8() 6R0-20(9 40) 9O1-8(11 2) 11E2-2() 30T3-6() 40E8-20(41) 41A8-19(0 49) 49E12-12()"
	for _, next := range []int{50, 51, 1000, api.MaxIds} {
		x := base()
		x.Next = next
		lead(t, "no steps", x, "", baseSize, fmt.Sprintf("6 %d: %s", next, all))
	}
}

// One thing turned, put in or cut out of a text: the steps there, and back. Trees are layer 13's, but Next never falls.
func TestOrdinarySteps(t *testing.T) {
	for _, c := range []struct{ s, u, there, back string }{
		{"1", "2", "", ""},
		{"1", "22", "S0(0-2) S1(0-2)", "S0(0-1) S1(0-1)"},
		{"1", "null", "D1 C2=W K0(2) S0(0-4) S2(0-4)", "D2 C1=N K0(1) S0(0-1) S1(0-1)"},
		{"[1,2,3]", "[11,2,3]", "S0(0-8) S1(0-8) S2(1-3) S3(4-5) S4(6-7)", "S0(0-7) S1(0-7) S2(1-2) S3(3-4) S4(5-6)"},
		{"[1,2,3]", `[1,"",3]`, "D3 C5=T K1(2 5 4) S0(0-8) S1(0-8) S4(6-7) S5(3-5)", "D5 C3=N K1(2 3 4) S0(0-7) S1(0-7) S3(3-4) S4(5-6)"},
		{`{"a":1}`, `{"a":[2]}`, "D4 C5=A C6=N K2(3 5) K5(6) S0(0-9) S1(0-9) S2(1-8) S5(5-8) S6(6-7)", "D5 D6 C4=N K2(3 4) S0(0-7) S1(0-7) S2(1-6) S4(5-6)"},
		{"[1,2,3]", "[9,1,2,3]", "C5=N K1(5 2 3 4) S0(0-9) S1(0-9) S2(3-4) S3(5-6) S4(7-8) S5(1-2)", "D5 K1(2 3 4) S0(0-7) S1(0-7) S2(1-2) S3(3-4) S4(5-6)"},
		{"[1,2,3]", "[1,2,3,9]", "C5=N K1(2 3 4 5) S0(0-9) S1(0-9) S5(7-8)", "D5 K1(2 3 4) S0(0-7) S1(0-7)"},
		{"[1,2,3]", "[1,3]", "D3 K1(2 4) S0(0-5) S1(0-5) S4(3-4)", "C3=N K1(2 3 4) S0(0-7) S1(0-7) S3(3-4) S4(5-6)"},
		{"[1,2,3]", "[]", "D2 D3 D4 K1() S0(0-2) S1(0-2)", "C2=N C3=N C4=N K1(2 3 4) S0(0-7) S1(0-7) S2(1-2) S3(3-4) S4(5-6)"},
		{"[1,2]", " [1,2]", "S0(0-6) S1(1-6) S2(2-3) S3(4-5)", "S0(0-5) S1(0-5) S2(1-2) S3(3-4)"},
		{"[1 ]", "[1,]", "C3=E K1(2 3) S3(3-3)", "D3 K1(2)"},
		{"1", "1 2", "C2=E C3=N K0(1 2) K2(3) S0(0-3) S2(2-3) S3(2-3)", "D2 D3 K0(1) S0(0-1)"},
		// The empty text's tree has a lack.
		{"", "", "", ""},
		{"", " ", "S0(0-1) S1(1-1)", "S0(0-0) S1(0-0)"},
		{"", "1", "D1 C2=N K0(2) S0(0-1) S2(0-1)", "D2 C1=E K0(1) S0(0-0) S1(0-0)"},
		{"", "#", "C2=E K0(2 1) S0(0-1) S1(1-1) S2(0-1)", "D2 K0(1) S0(0-0) S1(0-0)"},
		{"", "[1]", "D1 C2=A C3=N K0(2) K2(3) S0(0-3) S2(0-3) S3(1-2)", "D2 D3 C1=E K0(1) S0(0-0) S1(0-0)"},
	} {
		a := must(c.s)
		b := renewed(a, c.s, c.u)
		lead(t, fmt.Sprintf("%q to %q", c.s, c.u), a, c.there, len(c.u), shown(b))
		a.Next = b.Next
		lead(t, fmt.Sprintf("%q to %q", c.u, c.s), b, c.back, len(c.s), shown(a))
	}
}

// become is the base with something turned.
func become(turn func(x *api.Tree)) api.Tree {
	x := base()
	turn(&x)
	return x
}

// One step alone: a span, or children, may be turned so; a node that comes needs a parent, one that goes had one.
func TestOneStepAlone(t *testing.T) {
	for ss, turn := range map[string]func(x *api.Tree){
		"S0(9-12)":   func(x *api.Tree) {},
		"S0(9-11)":   func(x *api.Tree) { node(x, 0).To = 11 },
		"S0(8-12)":   func(x *api.Tree) { node(x, 0).From = 8 },
		"S49(19-19)": func(x *api.Tree) { node(x, 49).From, node(x, 49).To = 19, 19 },
		"S9(0-8)":    func(x *api.Tree) { node(x, 9).From = 0 },
		"S9(2-8)":    func(x *api.Tree) { node(x, 9).From = 2 },
		"S6(0-20)":   func(x *api.Tree) {},
		"K41(0 49)":  func(x *api.Tree) {},
		"K6(9 40)":   func(x *api.Tree) {},
		"K11()":      func(x *api.Tree) {},
		"K0()":       func(x *api.Tree) {},
	} {
		lead(t, "one step", base(), ss, baseSize, shown(become(turn)))
	}
	row := tree(0, nd(0, 'R', 0, 4, 2, 3, 5), nd(2, 'E', 1, 1), nd(3, 'W', 1, 1), nd(5, 'T', 1, 1))
	lead(t, "another row", row, "K0(5 2 3)", 4, "0 6: 0R0-4(5 2 3) 2E1-1() 3W1-1() 5T1-1()")
	for _, ss := range []string{
		"D0", "D49", "D11", "D30", "D9", "D41", "D40", "D6", "C1=N", "C50=E", "C7=R", "C49=E", "K41(0)", "K41(0 49 0)", "K41(49 0)", "K41(0 49 11)", "K41()", "K0(49)", "K6(9 40 6)", "K6()", "K49(49)",
		"S0(7-12)", "S0(9-13)", "S0(9-20)", "S6(0-19)", "S6(0-21)", "S6(1-20)", "S9(1-7)", "S9(3-8)", "S40(7-20)", "S49(11-11)", "S49(20-20)",
	} {
		refused(t, ss, base(), steps(ss), baseSize)
	}
}

// A new node: where it stands, its kind, and what else it has.
func TestNewNodes(t *testing.T) {
	x := tree(6, nd(6, 'R', 0, 9, 8), nd(8, 'O', 0, 9))
	for _, c := range []struct{ name, ss, want string }{
		{"behind the others", "C9=T K8(9) S9(1-3)", "6 10: 6R0-9(8) 8O0-9(9) 9T1-3()"},
		{"far behind", "C90=T K8(90) S90(1-3)", "6 91: 6R0-9(8) 8O0-9(90) 90T1-3()"},
		{"ahead of the others", "C5=T K8(5) S5(1-3)", "6 9: 5T1-3() 6R0-9(8) 8O0-9(5)"},
		{"0, ahead of the others", "C0=T K8(0) S0(1-3)", "6 9: 0T1-3() 6R0-9(8) 8O0-9(0)"},
		{"between the others", "C7=T K8(7) S7(1-3)", "6 9: 6R0-9(8) 7T1-3() 8O0-9(7)"},
		{"at all places, from behind", "C9=T C7=W C5=N K8(7 5 9) S9(1-3) S7(0-0) S5(1-1)", "6 10: 5N1-1() 6R0-9(8) 7W0-0() 8O0-9(7 5 9) 9T1-3()"},
		{"its span and its children, untold", "C9=A K8(9)", "6 10: 6R0-9(8) 8O0-9(9) 9A0-0()"},
		{"its span untold", "C9=A C10=W K9(10) K8(9)", "6 11: 6R0-9(8) 8O0-9(9) 9A0-0(10) 10W0-0()"},
		{"its children untold", "C9=A S9(2-7) K8(9)", "6 10: 6R0-9(8) 8O0-9(9) 9A2-7()"},
		{"its parent ahead of it", "K8(9) C9=A", "6 10: 6R0-9(8) 8O0-9(9) 9A0-0()"},
		{"a child of the root", "C9=A K6(9 8)", "6 10: 6R0-9(9 8) 8O0-9() 9A0-0()"},
		{"above an old one", "C9=A K9(8) K6(9) S9(0-9)", "6 10: 6R0-9(9) 8O0-9() 9A0-9(8)"},
		{"in another one's place", "C9=A K6(9) D8", "6 10: 6R0-9(9) 9A0-0()"},
	} {
		lead(t, c.name, x, c.ss, 9, c.want)
	}
	for _, letter := range letters[1:] {
		lead(t, "of each kind", x, fmt.Sprintf("C7=%c K8(7) S7(3-8)", letter), 9, fmt.Sprintf("6 9: 6R0-9(8) 7%c3-8() 8O0-9(7)", letter))
	}
	// A new node has nothing of one that was there.
	refused(t, "a child of another's span", x, steps("C9=A K8(9) S8(1-9)"), 9)
	refused(t, "a second root", x, steps("C9=R K8(9)"), 9)
	refused(t, "a second root, of all", x, steps("C9=R S9(0-9)"), 9)
	refused(t, "nobody's child", x, steps("C9=A"), 9)
	refused(t, "an old one's id", x, steps("C8=O"), 9)
}

// A node goes and comes again, or comes and goes again.
func TestDropAndPutAgain(t *testing.T) {
	for ss, turn := range map[string]func(x *api.Tree){
		"D0 C0=N S0(9-12)":                              func(x *api.Tree) {},
		"D0 C0=W S0(9-12)":                              func(x *api.Tree) { node(x, 0).Kind = api.NodeWord },
		"D0 C0=A S0(10-12)":                             func(x *api.Tree) { node(x, 0).Kind, node(x, 0).From = api.NodeArray, 10 },
		"D49 C49=E S49(12-12)":                          func(x *api.Tree) {},
		"D41 C41=O S41(8-19) K41(0 49)":                 func(x *api.Tree) { node(x, 41).Kind = api.NodeObject },
		"D41 C41=A S41(8-19) D0 D49":                    func(x *api.Tree) { node(x, 41).Kids = nil; drop(x, 0, 49) },
		"D0 C0=W D0 C0=N S0(9-12)":                      func(x *api.Tree) {},
		"D11 K9(2)":                                     func(x *api.Tree) { node(x, 9).Kids = []int{2}; drop(x, 11) },
		"D11 C11=W K9(2) D11":                           func(x *api.Tree) { node(x, 9).Kids = []int{2}; drop(x, 11) },
		"D6 C6=R S6(0-20) K6(9 40)":                     func(x *api.Tree) {},
		"C50=E D50":                                     func(x *api.Tree) { x.Next = 51 },
		"C50=E K50(1 2) S50(9-9) D50":                   func(x *api.Tree) { x.Next = 51 },
		"C50=E D50 C50=W D50":                           func(x *api.Tree) { x.Next = 51 },
		"C50=E D50 C20=W D20":                           func(x *api.Tree) { x.Next = 51 },
		"C20=E D20":                                     func(x *api.Tree) {},
		"C50=E D50 C50=W K41(0 49 50) S50(13-14)":       func(x *api.Tree) { put(x, nd(50, 'W', 13, 14)); node(x, 41).Kids = []int{0, 49, 50} },
		"C50=A K50(49) S50(9-19) D50 C50=W K6(50 9 40)": func(x *api.Tree) { put(x, nd(50, 'W', 0, 0)); node(x, 6).Kids = []int{50, 9, 40} },
		"D30 K2(5) C30=A S30(3-6) K2(30 5)":             func(x *api.Tree) { node(x, 30).Kind = api.NodeArray },
		"D11 C11=W K9(2) K6(11 9 40)": func(x *api.Tree) {
			*node(x, 11) = nd(11, 'W', 0, 0)
			node(x, 9).Kids = []int{2}
			node(x, 6).Kids = []int{11, 9, 40}
		},
		"D11 K9(2) C12=W D12 C11=E K9(11 2) S11(2-3) D30 C30=T S30(3-6)": func(x *api.Tree) { node(x, 11).To = 3 },
	} {
		lead(t, "again", base(), ss, baseSize, shown(become(turn)))
	}
	for _, ss := range []string{
		"D0 C0=N",                   // its span is gone
		"D41 C41=A S41(8-19)",       // its children are gone
		"D6 C6=R S6(0-20)",          // the root's too
		"D6 C6=R K6(9 40)",          // and its span
		"D6 C6=O S6(0-20) K6(9 40)", // it is the root no more
		"D6 C7=R S7(0-20) K7(9 40)", // Root stays
		"D0 D0", "C50=E C50=E", "D0 C0=N C0=N S0(9-12)", "C50=E D50 D50", "D0 C0=N D0 D0", "D0 K0()", "D0 S0(9-12)", "C50=E D50 K50()", "C50=E D50 S50(0-0)", "S50(0-0) C50=E D50",
	} {
		refused(t, ss, base(), steps(ss), baseSize)
	}
}

// Next is above each new id, and never falls.
func TestNext(t *testing.T) {
	for _, c := range []struct {
		next int
		ss   string
		want int
	}{
		{50, "", 50}, {60, "", 60}, {50, "D49 K41(0)", 50},
		{50, "C20=E K6(20 9 40)", 50}, {50, "C48=E K6(48 9 40)", 50}, {50, "C50=E K6(50 9 40)", 51}, {50, "C51=E K6(51 9 40)", 52}, {50, "C60=E K6(60 9 40)", 61},
		{60, "C50=E K6(50 9 40)", 60}, {60, "C58=E K6(58 9 40)", 60}, {60, "C59=E K6(59 9 40)", 60}, {60, "C60=E K6(60 9 40)", 61}, {60, "C61=E K6(61 9 40)", 62},
		{60, "C80=E C70=E K6(70 80 9 40)", 81}, {60, "C70=E C80=E K6(70 80 9 40)", 81}, {60, "C70=E C20=E K6(70 20 9 40)", 71}, {60, "C30=E D30", -1},
		{50, "D49 C49=E S49(12-12)", 50}, {60, "D49 C49=E S49(12-12)", 60}, {50, "C70=E D70", 71}, {60, "C20=E D20", 60}, {60, "C70=E D70 C65=E K6(65 9 40)", 71},
		// Setting children and spans of the greatest numbers turns nothing of it.
		{50, "K41(16777215) K41(0 49)", 50}, {50, "S49(4096-4096) S49(12-12)", 50},
		{50, "C16777215=E K6(16777215 9 40)", api.MaxIds}, {50, "C16777215=E D16777215", api.MaxIds}, {api.MaxIds, "C20=E K6(20 9 40)", api.MaxIds},
		{50, "C16777214=E K6(16777214 9 40)", api.MaxIds - 1}, {api.MaxIds, "C16777215=E K6(16777215 9 40)", api.MaxIds}, {50, "C16777216=E D16777216", -1},
	} {
		x := base()
		x.Next = c.next
		if c.want < 0 {
			refused(t, c.ss, x, steps(c.ss), baseSize)
			continue
		}
		if got := taken(t, c.ss, x, steps(c.ss), baseSize); got.Next != c.want {
			t.Errorf("P15.1: Next %d, %s: %d, want %d", c.next, c.ss, got.Next, c.want)
		}
	}
}

// Several steps of one node: the last of each sort holds, whatever stood between.
func TestTheLastHolds(t *testing.T) {
	for ss, turn := range map[string]func(x *api.Tree){
		"S0(9-10) S0(9-11)":                                 func(x *api.Tree) { node(x, 0).To = 11 },
		"S0(9-11) S0(9-12)":                                 func(x *api.Tree) {},
		"S0(9-11) S0(9-11) S0(9-11)":                        func(x *api.Tree) { node(x, 0).To = 11 },
		"S0(0-4096) S0(9-12)":                               func(x *api.Tree) {},
		"S6(5-4096) S6(0-20)":                               func(x *api.Tree) {},
		"S41(0-0) S0(9-11) S41(8-19)":                       func(x *api.Tree) { node(x, 0).To = 11 },
		"K41() K41(0 49)":                                   func(x *api.Tree) {},
		"K41(49 0) K41(0 49)":                               func(x *api.Tree) {},
		"K41(999 6 41 41) K41(0 49)":                        func(x *api.Tree) {},
		"K0(1 2 3) K0()":                                    func(x *api.Tree) {},
		"K41(0 49) K41(0 49)":                               func(x *api.Tree) {},
		"K6(40 9) K6() K6(9) K6(9 40)":                      func(x *api.Tree) {},
		"K41(49) D0 K41() D49":                              func(x *api.Tree) { node(x, 41).Kids = nil; drop(x, 0, 49) },
		"K41(0) D49 K41() D0":                               func(x *api.Tree) { node(x, 41).Kids = nil; drop(x, 0, 49) },
		"S49(1-2) K49(1) K41(0) D49":                        func(x *api.Tree) { node(x, 41).Kids = []int{0}; drop(x, 49) },
		"S41(8-18) K41(0) S41(8-17) D49":                    func(x *api.Tree) { node(x, 41).To, node(x, 41).Kids = 17, []int{0}; drop(x, 49) },
		"K40() K41() K40(41) K41(0 49)":                     func(x *api.Tree) {},
		"K40(0 41) K41(49) S41(12-19)":                      func(x *api.Tree) { node(x, 40).Kids, node(x, 41).Kids, node(x, 41).From = []int{0, 41}, []int{49}, 12 },
		"C50=A K50(49) S50(12-19) K41(0 50)":                func(x *api.Tree) { put(x, nd(50, 'A', 12, 19, 49)); node(x, 41).Kids = []int{0, 50} },
		"C50=A S50(1-2) S50(12-19) K50() K50(49) K41(0 50)": func(x *api.Tree) { put(x, nd(50, 'A', 12, 19, 49)); node(x, 41).Kids = []int{0, 50} },
	} {
		lead(t, "several", base(), ss, baseSize, shown(become(turn)))
	}
	for _, ss := range []string{"S0(9-12) S0(7-12)", "K41(0 49) K41(0)", "K41(0 49) K41(999)", "S6(0-20) S6(0-21)", "K41(0 49) K40(0 41)"} {
		refused(t, ss, base(), steps(ss), baseSize)
	}
}

// The size is that of the root behind all, whatever it was ahead.
func TestSizes(t *testing.T) {
	for _, to := range []int{20, 21, 300, 301, api.MaxLen} {
		ss := steps(fmt.Sprintf("S6(0-%d)", to))
		taken(t, "the root's", base(), ss, to)
		for _, size := range []int{to - 1, to + 1, 19, 22, 0, -1, -to, api.MaxLen - 1, api.MaxLen + 1, 1 << 40, -1 << 63, 1<<63 - 1} {
			refused(t, "another size", base(), ss, size)
		}
	}
	refused(t, "the size ahead", base(), steps("S6(0-21)"), 20)
	for _, to := range []int{0, 1, 7, api.MaxLen - 1, api.MaxLen} {
		x := tree(3, nd(3, 'R', 0, to))
		for _, then := range []int{0, 1, 7, api.MaxLen - 1, api.MaxLen} {
			ss := steps(fmt.Sprintf("S3(0-%d)", then))
			lead(t, "a root alone", x, fmt.Sprintf("S3(0-%d)", then), then, fmt.Sprintf("3 4: 3R0-%d()", then))
			for _, size := range []int{then - 1, then + 1, -1} {
				refused(t, "a root alone", x, ss, size)
			}
		}
		taken(t, "no steps", x, nil, to)
		for _, size := range []int{to - 1, to + 1, -1} {
			refused(t, "no steps", x, nil, size)
		}
	}
}

// The empty text's tree.
func TestTheEmptyText(t *testing.T) {
	x := must("")
	lead(t, "no steps", x, "", 0, "0 2: 0R0-0(1) 1E0-0()")
	lead(t, "the root alone", x, "D1 K0()", 0, "0 2: 0R0-0()")
	lead(t, "another kind", x, "D1 C1=W", 0, "0 2: 0R0-0(1) 1W0-0()")
	lead(t, "one more", x, "C2=A K0(2 1)", 0, "0 3: 0R0-0(2 1) 1E0-0() 2A0-0()")
	refused(t, "none at all", x, steps("D1 D0"), 0)
	refused(t, "longer than the root", x, nil, 1)
	refused(t, "a span behind the end", x, steps("S1(0-1)"), 0)
}
