package renew_test

import (
	"fmt"
	"math/rand"
	"slices"
	"strings"
	"testing"

	"minuet/api"
	"minuet/parse"
	"minuet/renew"
)

// A tree is written as its kinds' letters with their ids, and in brackets their children: "R0(A1(N2))" is an array of a
// number below the root.

// brief is what a message shows of what may be long.
func brief(x any) string {
	s := fmt.Sprintf("%+q", fmt.Sprint(x))
	if len(s) > 300 {
		s = s[:300] + " .."
	}
	return s
}

// must is layer 11's tree of a text that has one.
func must(s string) api.Tree {
	t, e := parse.Parse(s)
	if e != api.OK {
		panic("no tree of " + s)
	}
	return t
}

// branch is a node with its children, one within the other; id -1 is none yet. Two are like, if their marks are the same.
type branch struct {
	id   int
	kind int
	from int
	to   int
	mark string
	kids []*branch
}

// branches is a tree as branches; it asks for nodes in the plainest way.
func branches(t api.Tree, s string, id int) *branch {
	for _, n := range t.Nodes {
		if n.Id != id {
			continue
		}
		b := &branch{id: id, kind: n.Kind, from: n.From, to: n.To, mark: fmt.Sprintf("%d %q %d", n.Kind, s[n.From:n.To], len(n.Kids))}
		for i, k := range n.Kids {
			b.kids = append(b.kids, branches(t, s, k))
			b.mark += fmt.Sprintf("(at %d %s)", b.kids[i].from-b.from, b.kids[i].mark)
		}
		return b
	}
	panic("no node")
}

// give hands a branch's ids, and all below it, to one that is like it.
func (b *branch) give(to *branch) {
	to.id = b.id
	for i, k := range b.kids {
		k.give(to.kids[i])
	}
}

// lead hands ids on by the words of the chapter.
func (b *branch) lead(to *branch) {
	to.id = b.id
	old, now := b.kids, to.kids
	for len(old) > 0 && len(now) > 0 && old[0].mark == now[0].mark {
		old[0].give(now[0])
		old, now = old[1:], now[1:]
	}
	for len(old) > 0 && len(now) > 0 && old[len(old)-1].mark == now[len(now)-1].mark {
		old[len(old)-1].give(now[len(now)-1])
		old, now = old[:len(old)-1], now[:len(now)-1]
	}
	for len(old) > 0 && len(now) > 0 {
		if old[0].kind == now[0].kind {
			old[0].lead(now[0])
		}
		old, now = old[1:], now[1:]
	}
}

// number gives ids to those that have none, and puts all nodes into a tree, each ahead of its children.
func (b *branch) number(t *api.Tree) {
	if b.id < 0 {
		b.id = t.Next
		t.Next++
	}
	at := len(t.Nodes)
	t.Nodes = append(t.Nodes, api.Node{Id: b.id, Kind: b.kind, From: b.from, To: b.to})
	for _, k := range b.kids {
		k.number(t)
		t.Nodes[at].Kids = append(t.Nodes[at].Kids, k.id)
	}
}

// plainly is the renewed tree by the words of the chapter, but for how great Next may be.
func plainly(t api.Tree, s, u string) api.Tree {
	now := branches(must(u), u, 0)
	var forget func(b *branch)
	forget = func(b *branch) {
		b.id = -1
		for _, k := range b.kids {
			forget(k)
		}
	}
	forget(now)
	branches(t, s, t.Root).lead(now)
	out := api.Tree{Root: t.Root, Next: t.Next}
	now.number(&out)
	slices.SortFunc(out.Nodes, func(a, b api.Node) int { return a.Id - b.Id })
	return out
}

// same: are two trees the same, an empty list and none being one?
func same(a, b api.Tree) bool {
	return a.Root == b.Root && a.Next == b.Next && slices.EqualFunc(a.Nodes, b.Nodes, func(x, y api.Node) bool {
		return x.Id == y.Id && x.Kind == y.Kind && x.From == y.From && x.To == y.To && slices.Equal(x.Kids, y.Kids)
	})
}

// written writes a tree.
func written(t api.Tree, id int) string {
	at := slices.IndexFunc(t.Nodes, func(n api.Node) bool { return n.Id == id })
	if at < 0 {
		return "none"
	}
	n := t.Nodes[at]
	var kids []string
	for _, k := range n.Kids {
		kids = append(kids, written(t, k))
	}
	out := fmt.Sprintf("%c%d", "ROAPTNWE"[n.Kind], n.Id)
	if len(kids) > 0 {
		out += "(" + strings.Join(kids, " ") + ")"
	}
	return out
}

// right: is the renewed tree as the words say, one that may be, with rising ids? It is told.
func right(t *testing.T, x api.Tree, s, u string) api.Tree {
	t.Helper()
	got, e := renew.Renew(x, s, u)
	if want := plainly(x, s, u); !same(got, want) || e != api.OK {
		t.Fatalf("P13.1: %s, %s, %s: %s, %d, want %s", brief(x), brief(s), brief(u), brief(got), e, brief(want))
	}
	if !parse.May(got, len(u)) {
		t.Fatalf("P13.1: %s, %s: %s may not be", brief(s), brief(u), brief(got))
	}
	return got
}

// refused: is there no tree?
func refused(t *testing.T, name string, x api.Tree, s, u string) {
	t.Helper()
	if got, e := renew.Renew(x, s, u); e != api.ErrRenewForm || got.Root != 0 || got.Next != 0 || got.Nodes != nil {
		t.Errorf("P13.1: %s: %s, %s, %s: %s, %d", name, brief(x), brief(s), brief(u), brief(got), e)
	}
}

// step is a text, the one that comes, and the written tree of that.
type step struct{ s, u, want string }

// become: is what becomes of layer 11's tree of each text as written?
func become(t *testing.T, steps []step) {
	t.Helper()
	for _, c := range steps {
		got, e := renew.Renew(must(c.s), c.s, c.u)
		if w := written(got, got.Root); w != c.want || e != api.OK {
			t.Errorf("P13.1: %q, %q: %s, %d, want %s", c.s, c.u, w, e, c.want)
		}
		right(t, must(c.s), c.s, c.u)
	}
}

func TestWhatStays(t *testing.T) {
	for _, s := range samples() {
		x := must(s)
		if got := right(t, x, s, s); !same(got, x) {
			t.Errorf("P13.1: %s: %s, want %s", brief(s), brief(got), brief(x))
		}
	}
}

// samples are texts of each sort.
func samples() []string {
	return []string{
		"", " ", "//", "1", `"a"`, "null", "[]", "{}", "[1,2,3]", "[1,[2,[3]],4]", `{"a":1}`, `{"a":1,"b":[2,{"c":3}],"d":null}`,
		" [ 1 , 2 ] // x", "#", "1 2", "[1 2", "{1:2}", `{"a" "b",`, "]}:,", "[[[", "[,,]", `{"a"`, strings.Repeat("[", api.MaxDepth+1),
		"{" + strings.Repeat("0", api.MaxDoc-1), strings.Repeat(`{"":`, api.MaxDoc/4), strings.Repeat(" ", api.MaxDoc),
	}
}

func TestOneElement(t *testing.T) {
	become(t, []step{
		// Turned: ahead, between, behind; of one kind and of another.
		{"[1,2,3]", "[9,2,3]", "R0(A1(N2 N3 N4))"},
		{"[1,2,3]", "[1,9,3]", "R0(A1(N2 N3 N4))"},
		{"[1,2,3]", "[1,2,9]", "R0(A1(N2 N3 N4))"},
		{"[1,2,3]", "[null,2,3]", "R0(A1(W5 N3 N4))"},
		{"[1,2,3]", "[1,null,3]", "R0(A1(N2 W5 N4))"},
		{"[1,2,3]", "[1,2,null]", "R0(A1(N2 N3 W5))"},
		{"[1,2,3]", "[1,[2],3]", "R0(A1(N2 A5(N6) N4))"},
		// Put in.
		{"[1,2,3]", "[9,1,2,3]", "R0(A1(N5 N2 N3 N4))"},
		{"[1,2,3]", "[1,9,2,3]", "R0(A1(N2 N5 N3 N4))"},
		{"[1,2,3]", "[1,2,3,9]", "R0(A1(N2 N3 N4 N5))"},
		{"[]", "[1]", "R0(A1(N2))"},
		{"[2]", "[[1],2]", "R0(A1(A3(N4) N2))"},
		// Cut out.
		{"[1,2,3]", "[2,3]", "R0(A1(N3 N4))"},
		{"[1,2,3]", "[1,3]", "R0(A1(N2 N4))"},
		{"[1,2,3]", "[1,2]", "R0(A1(N2 N3))"},
		{"[1]", "[]", "R0(A1)"},
		{"[1,[2,3],4]", "[1,4]", "R0(A1(N2 N6))"},
	})
}

func TestOnePair(t *testing.T) {
	become(t, []step{
		// A name, a value, both.
		{`{"a":1,"b":2}`, `{"x":1,"b":2}`, "R0(O1(P2(T3 N4) P5(T6 N7)))"},
		{`{"a":1,"b":2}`, `{"a":9,"b":2}`, "R0(O1(P2(T3 N4) P5(T6 N7)))"},
		{`{"a":1,"b":2}`, `{"a":null,"b":2}`, "R0(O1(P2(T3 W8) P5(T6 N7)))"},
		{`{"a":1,"b":2}`, `{"a":1,"b":"c"}`, "R0(O1(P2(T3 N4) P5(T6 T8)))"},
		{`{"a":1}`, `{"b":[1]}`, "R0(O1(P2(T3 A5(N6))))"},
		{`{"a":{"b":1}}`, `{"a":{"c":1}}`, "R0(O1(P2(T3 O4(P5(T6 N7)))))"},
		// Put in, cut out.
		{`{"a":1,"b":2}`, `{"c":3,"a":1,"b":2}`, "R0(O1(P8(T9 N10) P2(T3 N4) P5(T6 N7)))"},
		{`{"a":1,"b":2}`, `{"a":1,"c":3,"b":2}`, "R0(O1(P2(T3 N4) P8(T9 N10) P5(T6 N7)))"},
		{`{"a":1,"b":2}`, `{"a":1,"b":2,"c":3}`, "R0(O1(P2(T3 N4) P5(T6 N7) P8(T9 N10)))"},
		{`{"a":1,"b":2}`, `{"b":2}`, "R0(O1(P5(T6 N7)))"},
		{`{"a":1,"b":2}`, `{"a":1}`, "R0(O1(P2(T3 N4)))"},
		// Turned round: neither is like the one in its place, and both are of one kind.
		{`{"a":1,"b":2}`, `{"b":2,"a":1}`, "R0(O1(P2(T3 N4) P5(T6 N7)))"},
	})
}

func TestSeveralAtOnce(t *testing.T) {
	become(t, []step{
		{"[1,2,3,4]", "[1,8,9,4]", "R0(A1(N2 N3 N4 N5))"},
		{"[1,2,3,4]", "[9,2,3,8]", "R0(A1(N2 N3 N4 N5))"},
		{"[1,2,3,4]", "[null,2,3,true]", "R0(A1(W6 N3 N4 W7))"},
		{`[1,2,"a",4]`, `[1,"b",null,4]`, "R0(A1(N2 T6 W7 N5))"},
		{"[1,2,3]", "[9,1,2,3,9]", "R0(A1(N2 N3 N4 N5 N6))"},
		{"[1,[2],3]", "[1,[2,2],[3],3]", "R0(A1(N2 A3(N4 N6) A7(N8) N5))"},
		{"[[1,2],[3,4]]", "[[1,9,2],[9,3]]", "R0(A1(A2(N3 N8 N4) A5(N6 N7)))"},
		{`{"a":[1,2],"b":3}`, `{"x":[1,2],"b":4}`, "R0(O1(P2(T3 A4(N5 N6)) P7(T8 N9)))"},
		// All new ones in the row of the text, wherever they are.
		{"[1,[2],3]", "[null,[true,2],[3],3]", "R0(A1(W6 A3(W7 N4) A8(N9) N5))"},
		{"[1,2]", `{"a":[1,2]}`, "R0(O4(P5(T6 A7(N8 N9))))"},
	})
}

// Like ones are taken from ahead first: so among many that are like the last ones are new, or gone.
func TestRowsOfLikeChildren(t *testing.T) {
	become(t, []step{
		{"[1,1]", "[1,1,1]", "R0(A1(N2 N3 N4))"},
		{"[1,1,1]", "[1,1]", "R0(A1(N2 N3))"},
		{"[1,1,1]", "[1]", "R0(A1(N2))"},
		{"[1,1,1]", "[1,2,1]", "R0(A1(N2 N3 N4))"},
		{"[1,1,1]", "[1,null,1]", "R0(A1(N2 W5 N4))"},
		{"[1,1,1]", "[1,null,1,1]", "R0(A1(N2 W5 N3 N4))"},
		{"[1,1,1]", "[1,1,null,1,1]", "R0(A1(N2 N3 W5 N6 N4))"},
		{"[1,1,1,2]", "[1,1,2]", "R0(A1(N2 N3 N5))"},
		{"[2,1,1,1]", "[2,1,1]", "R0(A1(N2 N3 N4))"},
		{"[1,2,1,2]", "[1,2]", "R0(A1(N2 N3))"},
		{"[1,2,1,2]", "[1,2,1,2,1,2]", "R0(A1(N2 N3 N4 N5 N6 N7))"},
		{"[2,1,2]", "[1,2,1,2]", "R0(A1(N5 N2 N3 N4))"},
		{"[[1],[1]]", "[[1],[1],[1]]", "R0(A1(A2(N3) A4(N5) A6(N7)))"},
		{"[[1],[1]]", "[[1],null,[1]]", "R0(A1(A2(N3) W6 A4(N5)))"},
		{`{"a":1,"a":1}`, `{"a":1,"a":1,"a":1}`, "R0(O1(P2(T3 N4) P5(T6 N7) P8(T9 N10)))"},
	})
}

// Those between, place by place, as far as both go.
func TestBetween(t *testing.T) {
	become(t, []step{
		// Of one kind, of unlike kinds, of both.
		{"[0,1,2,0]", "[0,3,4,0]", "R0(A1(N2 N3 N4 N5))"},
		{`[0,1,"a",0]`, `[0,"b",2,0]`, "R0(A1(N2 T6 N7 N5))"},
		{`[0,1,"a",null,0]`, `[0,2,true,false,0]`, "R0(A1(N2 N3 W7 W5 N6))"},
		// One row is longer than the other.
		{"[0,1,0]", "[0,2,3,4,0]", "R0(A1(N2 N3 N5 N6 N4))"},
		{"[0,1,2,3,0]", "[0,4,0]", "R0(A1(N2 N3 N6))"},
		{"[0,1,2,3,0]", "[0,null,4,0]", "R0(A1(N2 W7 N4 N6))"},
		// One that is like stands in its place; one that is like does not.
		{"[1,2,3]", "[8,2,9]", "R0(A1(N2 N3 N4))"},
		{"[1,2,3,4]", "[8,1,2,9]", "R0(A1(N2 N3 N4 N5))"},
		{"[[1],[2],[3]]", "[[2],[3],[4]]", "R0(A1(A2(N3) A4(N5) A6(N7)))"},
		// Likewise below: from ahead, from behind, between.
		{"[[1,2,3],0]", "[[1,9,3],0]", "R0(A1(A2(N3 N4 N5) N6))"},
		{"[[1,2,3],0]", "[[1,null,3],0]", "R0(A1(A2(N3 W7 N5) N6))"},
		{"[[1,2,3],0]", "[[2,3],0]", "R0(A1(A2(N4 N5) N6))"},
		{"[[1,2,3],0]", "[[1,3],0]", "R0(A1(A2(N3 N5) N6))"},
		{"[[1,[2,3]],0]", "[[1,[2,null,3]],0]", "R0(A1(A2(N3 A4(N5 W8 N6)) N7))"},
		{`[{"a":[1,2]}]`, `[{"a":[1,3]}]`, "R0(A1(O2(P3(T4 A5(N6 N7)))))"},
		{`[{"a":[1,2]}]`, `[{"b":[2]}]`, "R0(A1(O2(P3(T4 A5(N7)))))"},
		// Below what is new nothing stays.
		{"[1,2]", "{1,2}", "R0(O4(E5(N6) E7(N8)))"},
		{`["a"]`, `{"a"}`, "R0(O3(P4(T5 E6 E7)))"},
		{"[[[1]]]", "[{[1]}]", "R0(A1(O5(E6(A7(N8)))))"},
	})
}

func TestTheRootStays(t *testing.T) {
	become(t, []step{
		{"", "", "R0(E1)"},
		{"", "1", "R0(N2)"},
		{"1", "", "R0(E2)"},
		{"", " ", "R0(E1)"},
		{"", "#", "R0(E2 E1)"},
		{"#", "", "R0(E2)"},
		{"", "[1,2]", "R0(A2(N3 N4))"},
		{"[1,2]", "", "R0(E4)"},
		{"[1,2]", "{}", "R0(O4)"},
		{"[1,2]", "null", "R0(W4)"},
		{"1", "2", "R0(N1)"},
		{"//", "/**/ ", "R0(E1)"},
		{"// x", "1 // x", "R0(N2)"},
	})
}

func TestBlanksAndRemarks(t *testing.T) {
	become(t, []step{
		// Ahead of a value and behind it: all of it is like.
		{"[1,2]", "  [1,2]", "R0(A1(N2 N3))"},
		{"[1,2]", "[1,2] // x", "R0(A1(N2 N3))"},
		{" /* x */ [1,2]\n", "[1,2]", "R0(A1(N2 N3))"},
		// Within: the bytes are others, the kinds stay, and so does what is like below.
		{"[1,2]", "[1, 2]", "R0(A1(N2 N3))"},
		{"[1,2]", "[/**/1,//\n2 ]", "R0(A1(N2 N3))"},
		{"[ 1]", "[1 ]", "R0(A1(N2))"},
		{"[1, 2]", "[1 ,2]", "R0(A1(N2 N3))"},
		{`{"a":1}`, "{\n\t\"a\" : 1\n}", "R0(O1(P2(T3 N4)))"},
		{"[[1],[1]]", "[[ 1],[1]]", "R0(A1(A2(N3) A4(N5)))"},
		{"[[1],[1],[1]]", "[[1],[ 1],[1]]", "R0(A1(A2(N3) A4(N5) A6(N7)))"},
		// Together with what is put in or cut out: what is not like for its blanks stands between, and is met by place.
		{"[[1],[2]]", "[ [1], [2]]", "R0(A1(A2(N3) A4(N5)))"},
		{"[[1],[2]]", "[0,[1],[2]]", "R0(A1(N6 A2(N3) A4(N5)))"},
		{"[[1],[2]]", "[0,[1],[2 ]]", "R0(A1(N6 A4(N5) A7(N8)))"},
		{"[[1],[2]]", "[[2 ]]", "R0(A1(A2(N3)))"},
		{"[[1],[2]]", "[[2]]", "R0(A1(A4(N5)))"},
	})
}

func TestErrors(t *testing.T) {
	become(t, []step{
		// Lacks are like, wherever they are; strays are, if they are the same bytes.
		{"[1", "[2", "R0(A1(N2 E3))"},
		{"[1", "[1,2", "R0(A1(N2 N4 E3))"},
		{"[1", "[1]", "R0(A1(N2))"},
		{"[1]", "[1", "R0(A1(N2 E3))"},
		{"[1,", "[1,2", "R0(A1(N2 N4 E3))"},
		{"[1,]", "[1,2]", "R0(A1(N2 N4))"},
		{"[1 2]", "[1,2]", "R0(A1(N2 N4))"},
		{"[1,2]", "[1 2]", "R0(A1(N2 E4 N3))"},
		{"[1 2]", "[1 2 2]", "R0(A1(N2 E3 N4 E5 N6))"},
		{"[#]", "[##]", "R0(A1(E2 E3))"},
		{"[#]", "[$]", "R0(A1(E2))"},
		{"[#,1]", "[1]", "R0(A1(N4))"},
		{"#1", "1", "R0(N2)"},
		{"#1", "1#", "R0(N3 E4)"},
		{"1", "1 2", "R0(N1 E2(N3))"},
		{"1 2", "1 3", "R0(N1 E2(N3))"},
		{"1 2", "1 [2]", "R0(N1 E2(A4(N5)))"},
		{"1 2 3", "1 3", "R0(N1 E4(N5))"},
		{`{"a"}`, `{"a":}`, "R0(O1(P2(T3 E4)))"},
		{`{"a":}`, `{"a":1}`, "R0(O1(P2(T3 N5)))"},
		{`{"a" 1}`, `{"a":1}`, "R0(O1(P2(T3 N5)))"},
		{`{"a`, `{"a"`, "R0(O1(P4(T5 E6 E7) E3))"},
		{"{1}", "{2}", "R0(O1(E2(N3)))"},
		{"{1}", `{"a":1}`, "R0(O1(P4(T5 N6)))"},
		// The same bytes, but another kind: a value, and an error around such a value.
		{"1 2", "2", "R0(N1)"},
		{"null 1", "1", "R0(N4)"},
		{"1", "null 1", "R0(W2 E3(N4))"},
		{"[] []", "[]", "R0(A1)"},
		// An error that is stray, and one that lacks or holds something: one kind.
		{"[1#2]", "[1 2]", "R0(A1(N2 E4 N5))"},
		{"{#}", "{1}", "R0(O1(E2(N3)))"},
		{"{1}", "{#}", "R0(O1(E2))"},
		{"1 2", "1#", "R0(N1 E2)"},
	})
}

// Brackets that are too deep: the same bytes are one node or several, with other children at other places.
func TestDepth(t *testing.T) {
	in := func(n int, s string) string { return strings.Repeat("[", n) + s + strings.Repeat("]", n) }
	for n := api.MaxDepth - 3; n <= api.MaxDepth+2; n++ {
		for _, s := range []string{"[]", "{}", "[1]", "[[1]", "[[1]]", `{"a":[1]}`, "[1,[2,3],4]", "[", "{", "[{", "{["} {
			for m := n - 2; m <= n+2; m++ {
				for _, u := range []string{s, s + "," + s, "0," + s, s + ",0", " " + s, "0"} {
					right(t, must(in(n, s)), in(n, s), in(m, u))
					right(t, must(strings.Repeat("[", n)+s), strings.Repeat("[", n)+s, in(m, u))
				}
			}
		}
	}
	// One bracket around all: the outermost list stays, and so does each within, as far as both go.
	s, u := in(3, "1,2"), in(4, "1,2")
	got := right(t, must(s), s, u)
	if w := written(got, 0); w != "R0(A1(A2(A3(A6(N7 N8)))))" {
		t.Errorf("P13.1: %s", w)
	}
}

// spread gives a tree other ids, by chance, in another row, the last of them far ahead of Next.
func spread(r *rand.Rand, x api.Tree) api.Tree {
	ids := r.Perm(3 * len(x.Nodes))[:len(x.Nodes)]
	out := copyOf(x)
	out.Root, out.Next = ids[x.Root], 3*len(x.Nodes)+r.Intn(100)
	for i := range out.Nodes {
		out.Nodes[i].Id = ids[i]
		for j, k := range x.Nodes[i].Kids {
			out.Nodes[i].Kids[j] = ids[k]
		}
	}
	slices.SortFunc(out.Nodes, func(a, b api.Node) int { return a.Id - b.Id })
	return out
}

// far is the tree of [1,[2],3] with ids that neither are one behind the other nor rise from a node to its children.
func far() api.Tree {
	return api.Tree{Root: 70, Next: 5000, Nodes: []api.Node{
		{Id: 3, Kind: api.NodeNumber, From: 4, To: 5},
		{Id: 4, Kind: api.NodeArray, From: 0, To: 9, Kids: []int{900, 20, 8}},
		{Id: 8, Kind: api.NodeNumber, From: 7, To: 8},
		{Id: 20, Kind: api.NodeArray, From: 3, To: 6, Kids: []int{3}},
		{Id: 70, Kind: api.NodeRoot, From: 0, To: 9, Kids: []int{4}},
		{Id: 900, Kind: api.NodeNumber, From: 1, To: 2},
	}}
}

const farText = "[1,[2],3]"

func TestOtherIds(t *testing.T) {
	for u, want := range map[string]string{
		farText:           "R70(A4(N900 A20(N3) N8))",
		"[1,[2,2],3]":     "R70(A4(N900 A20(N3 N5000) N8))",
		"[[2],3]":         "R70(A4(A20(N3) N8))",
		"[0,1,[2],3]":     "R70(A4(N5000 N900 A20(N3) N8))",
		"[1,[null],3,[]]": "R70(A4(N900 A20(W5000) N8 A5001))",
		"{}":              "R70(O5000)",
		"":                "R70(E5000)",
		"1 [2]":           "R70(N5000 E5001(A5002(N5003)))",
	} {
		got := right(t, far(), farText, u)
		if w := written(got, got.Root); w != want {
			t.Errorf("P13.1: %q: %s, want %s", u, w, want)
		}
	}
	// Nodes stand by id, not in the row of the text; a tree keeps no bytes, so it is that of all texts of one form.
	got := right(t, far(), "[9,[8],7]", "[9,[0],7,null]")
	want := api.Tree{Root: 70, Next: 5001, Nodes: []api.Node{
		{Id: 3, Kind: api.NodeNumber, From: 4, To: 5},
		{Id: 4, Kind: api.NodeArray, From: 0, To: 14, Kids: []int{900, 20, 8, 5000}},
		{Id: 8, Kind: api.NodeNumber, From: 7, To: 8},
		{Id: 20, Kind: api.NodeArray, From: 3, To: 6, Kids: []int{3}},
		{Id: 70, Kind: api.NodeRoot, From: 0, To: 14, Kids: []int{4}},
		{Id: 900, Kind: api.NodeNumber, From: 1, To: 2},
		{Id: 5000, Kind: api.NodeWord, From: 9, To: 13},
	}}
	if !same(got, want) {
		t.Errorf("P13.1: %v, want %v", got, want)
	}
}

func TestNextUpToMaxIds(t *testing.T) {
	for u, fresh := range map[string]int{farText: 0, "[1]": 0, "[1,[2],4]": 0, "[0,1,[2],3]": 1, "[]{}": 2, "{}": 1, "": 1, "[1,[2,[[]]],3,4,5]": 4} {
		x := far()
		x.Next = api.MaxIds - fresh
		if got := right(t, x, farText, u); got.Next != api.MaxIds {
			t.Errorf("P13.1: %q: Next is %d", u, got.Next)
		}
		for _, more := range []int{1, 2, fresh, fresh + 1} {
			x.Next = api.MaxIds - fresh + more
			if more > 0 {
				refused(t, "Next behind MaxIds", x, farText, u)
			}
		}
	}
	// The last id of all, and then none any more.
	x := far()
	x.Next = api.MaxIds - 1
	x = right(t, x, farText, "[1,[2],3,4]")
	if last := x.Nodes[len(x.Nodes)-1].Id; last != api.MaxIds-1 {
		t.Errorf("P13.1: the last id is %d", last)
	}
	right(t, x, "[1,[2],3,4]", "[1,[2],3,5]")
	refused(t, "no id is left", x, "[1,[2],3,4]", "[1,[2],3,4,5]")
}

// pieces are what texts are made of here: one token each, that stays one beside any other.
func pieces() []string {
	return []string{"{", "}", "[", "]", ":", ",", `""`, "0", "#"}
}

// every calls a function with every row of at most n pieces.
func every(n int, f func(row []string)) {
	row := make([]string, 0, n)
	var more func()
	more = func() {
		f(row)
		if len(row) == n {
			return
		}
		for _, p := range pieces() {
			row = append(row, p)
			more()
			row = row[:len(row)-1]
		}
	}
	more()
}

func TestEveryTwoShortTexts(t *testing.T) {
	every(2, func(old []string) {
		s := strings.Join(old, "")
		x := must(s)
		every(2, func(row []string) {
			right(t, x, s, strings.Join(row, ""))
		})
	})
}

// Every short text, in others, with each piece put in anywhere, turned or cut out.
func TestEveryShortEdit(t *testing.T) {
	for _, around := range [][2]string{{"", ""}, {"[0,", ",0]"}, {`{"":[`, `],"":0}`}} {
		every(2, func(row []string) {
			s := around[0] + strings.Join(row, "") + around[1]
			x := must(s)
			for at := range len(row) + 1 {
				for _, p := range append(pieces(), " ", "[0,0]", `"":0`) {
					right(t, x, s, around[0]+strings.Join(slices.Insert(slices.Clone(row), at, p), "")+around[1])
					if at < len(row) {
						turned := slices.Clone(row)
						turned[at] = p
						right(t, x, s, around[0]+strings.Join(turned, "")+around[1])
					}
				}
				if at < len(row) {
					right(t, x, s, around[0]+strings.Join(slices.Delete(slices.Clone(row), at, at+1), "")+around[1])
				}
			}
		})
	}
}

// chance makes a text by chance.
func chance(r *rand.Rand, most int) string {
	words := append(pieces(), " ", "\n", "/* x */", "// y\n", "\"", "/", "true", "null,", `"b":`, `"c":1,`, "-2.5", "],", "},", "[[", "[{", "\xff", "/*", "0,0,0,", "[0],[0],")
	s := ""
	for range r.Intn(most + 1) {
		if w := words[r.Intn(len(words))]; len(s)+len(w) <= api.MaxDoc {
			s += w
		}
	}
	return s
}

// edited is a text with some bytes of it cut and others put, by chance, not too long.
func edited(r *rand.Rand, s string) string {
	for {
		at := r.Intn(len(s) + 1)
		cut := r.Intn(min(len(s)-at, 6) + 1)
		if u := s[:at] + chance(r, 3) + s[at+cut:]; len(u) <= api.MaxDoc {
			return u
		}
	}
}

// Rows of texts, each tree renewed from the one ahead: an id that is gone never comes back, and none turns its kind.
func TestRowsOfTexts(t *testing.T) {
	r := rand.New(rand.NewSource(131))
	stayed, gone, come := 0, 0, 0
	for range 60 {
		s := chance(r, 25)
		x := must(s)
		kinds := map[int]int{}
		for range 30 {
			last := map[int]int{}
			for _, n := range x.Nodes {
				last[n.Id], kinds[n.Id] = n.Kind, n.Kind
			}
			u := edited(r, s)
			y := right(t, x, s, u)
			for _, n := range y.Nodes {
				kind, was := last[n.Id]
				_, ever := kinds[n.Id]
				switch {
				case was && kind == n.Kind:
					stayed++
				case was || ever || n.Id < x.Next:
					t.Fatalf("P13.1: %s, %s: %d came back or turned", brief(s), brief(u), n.Id)
				default:
					come++
				}
			}
			gone += len(x.Nodes) + y.Next - x.Next - len(y.Nodes)
			x, s = y, u
		}
	}
	if stayed < 10000 || gone < 1000 || come < 1000 {
		t.Errorf("%d stayed, %d went, %d came: the edits are too wild or too tame", stayed, gone, come)
	}
}

func TestTextsByChance(t *testing.T) {
	r := rand.New(rand.NewSource(132))
	for range 400 {
		s := chance(r, 40)
		x := spread(r, must(s))
		right(t, x, s, edited(r, edited(r, s)))
		right(t, x, s, chance(r, 40))
		right(t, x, s, s)
		b := make([]byte, r.Intn(api.MaxDoc+1))
		for i := range b {
			b[i] = byte(r.Intn(256))
		}
		right(t, x, s, string(b))
		right(t, spread(r, must(string(b))), string(b), s)
	}
}

// Texts of MaxDoc bytes, and the most nodes that such may have: with many that are like, and with none.
func TestUpToMaxDoc(t *testing.T) {
	const n = api.MaxDoc
	r := rand.New(rand.NewSource(133))
	for _, c := range []string{"0", "0,", "[", "{", "[0]", "[0 ", `{"":`, "#", " ", "{}", "[[],", "\xff"} {
		for _, ahead := range []string{"", "[", "{", strings.Repeat("[", api.MaxDepth)} {
			s := (ahead + strings.Repeat(c, n))[:n]
			x := spread(r, must(s))
			for _, u := range []string{s, s[1:], s[:n-1], s[:n/2] + "1" + s[n/2+1:], s[:n/2] + s[n/2+1:], s[n/2:] + s[:n/2], ""} {
				right(t, x, s, u)
				right(t, must(u), u, s)
			}
			refused(t, "too long", x, s, s+" ")
			refused(t, "too long", x, s, c+s)
			refused(t, "much too long", x, s, strings.Repeat(s, 4000))
		}
	}
}
