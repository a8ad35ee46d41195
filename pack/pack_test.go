package pack_test

import (
	"fmt"
	"slices"
	"strings"
	"testing"

	"minuet/api"
	"minuet/pack"
	"minuet/parse"
	"minuet/renew"
)

// P17.2: texts written out by hand; messages there and back.

// brief is what a test shows of what may be long.
func brief(x any) string {
	s := fmt.Sprintf("%+q", fmt.Sprint(x))
	if len(s) > 600 {
		s = s[:600] + " .."
	}
	return s
}

// must is layer 11's tree of a text that has one.
func must(s string) api.Tree {
	t, e := parse.Parse(s)
	if e != api.OK {
		panic("no tree of " + s)
	}
	return t
}

// renewed is a text's tree with the ids of one of another text.
func renewed(s, u string) api.Tree {
	t, e := renew.Renew(must(s), s, u)
	if e != api.OK {
		panic("no tree of " + s + " and " + u)
	}
	return t
}

// keep, put and cut are pieces.
func keep(n int) api.Comp            { return api.Comp{Kind: api.CompKeep, N: n} }
func put(s string) api.Comp          { return api.Comp{Kind: api.CompPut, Text: s} }
func cut(n int) api.Comp             { return api.Comp{Kind: api.CompCut, N: n} }
func edit(cs ...api.Comp) []api.Comp { return cs }

// drop, create, kids and span are steps.
func drop(id int) api.Step         { return api.Step{Kind: api.StepDrop, Id: id} }
func create(id, kind int) api.Step { return api.Step{Kind: api.StepCreate, Id: id, Node: kind} }
func kids(id int, ks ...int) api.Step {
	return api.Step{Kind: api.StepKids, Id: id, Kids: ks}
}
func span(id, from, to int) api.Step {
	return api.Step{Kind: api.StepSpan, Id: id, From: from, To: to}
}
func steps(ss ...api.Step) []api.Step { return ss }

// changes, snap and poll are messages.
func changes(client, rev int, es ...api.Entry) api.Msg {
	return api.Msg{Kind: api.MsgChanges, Client: client, Rev: rev, Entries: es}
}
func snap(text string, tree api.Tree) api.Msg {
	return api.Msg{Kind: api.MsgSnap, Text: text, Tree: tree}
}
func poll(client, rev, seq int, cs ...api.Comp) api.Msg {
	return api.Msg{Kind: api.MsgPoll, Client: client, Rev: rev, Seq: seq, Edit: cs}
}

// many is a tree of the text [1,{"a":1}] with ids that do not stand in the row of its nodes.
func many() api.Tree {
	return renewed(`[{"a":1}]`, `[1,{"a":1}]`)
}

// written is a message and its text.
type written struct {
	msg  api.Msg
	text string
}

// rows are messages with their texts, written out by hand.
func rows() []written {
	full := api.Msg{Kind: api.MsgSnap, Client: 2, Rev: 9, Seq: 3, From: 4, Last: 2, Refused: true, Text: "[1]", Tree: must("[1]")}
	open := full
	open.Refused = false
	return []written{
		{api.Msg{}, "P0,0,0,0,"},
		{poll(2, 4096, 0), "P2,4096,0,0,"},
		{poll(1, 0, 1), "P1,0,1,0,"},
		{poll(0, 10, 4096, keep(1)), "P0,10,4096,1,k1,"},
		{poll(0, 3, 4, cut(4096)), "P0,3,4,1,c4096,"},
		{poll(0, 3, 4, put("a")), "P0,3,4,1,p1:a"},
		{poll(2, 3, 4, put("ab"), cut(7), keep(12), cut(1), keep(3), put("0123456789")), "P2,3,4,6,p2:abc7,k12,c1,k3,p10:0123456789"},
		{poll(1, 3, 4, put("k1,"), keep(1), put("p1:x"), keep(1), put(",:,:"), cut(1)), "P1,3,4,6,p3:k1,k1,p4:p1:xk1,p4:,:,:c1,"},
		{poll(1, 3, 4, put("4:"), keep(2), put("1,2,"), keep(3), put("\x00\xff\n\"é")), "P1,3,4,5,p2:4:k2,p4:1,2,k3,p6:\x00\xff\n\"é"},
		{changes(0, 0), "C0,0,0,"},
		{changes(2, 4096), "C2,4096,0,"},
		{changes(1, 7, api.Entry{Seq: 1}), "C1,7,1,0,1,0,0,"},
		{changes(1, 7, api.Entry{Client: 2, Seq: 4096}, api.Entry{Client: 1, Seq: 12}, api.Entry{Seq: 3}), "C1,7,3,2,4096,0,0,1,12,0,0,0,3,0,0,"},
		{changes(0, 5, api.Entry{Client: 1, Seq: 2, Edit: edit(keep(3), put("x,"), cut(2))}), "C0,5,1,1,2,3,k3,p2:x,c2,0,"},
		{changes(0, 5, api.Entry{Seq: 2, Delta: steps(drop(0))}), "C0,5,1,0,2,0,1,0,0,0,0,0,0,"},
		{changes(0, 5, api.Entry{Seq: 2, Delta: steps(drop(3), drop(40), create(5, 6), create(16777215, 0), kids(7), kids(8, 5), kids(9, 1, 16777215, 0, 1), span(9, 0, 0), span(10, 17, 4096))}),
			"C0,5,1,0,2,0,9,0,3,0,0,0,0,0,40,0,0,0,0,1,5,6,0,0,0,1,16777215,0,0,0,0,2,7,0,0,0,0,2,8,0,0,0,1,5,2,9,0,0,0,4,1,16777215,0,1,3,9,0,0,0,0,3,10,0,17,4096,0,"},
		{changes(2, 1, api.Entry{Client: 1, Seq: 3, Edit: edit(put("0,"), cut(1)), Delta: steps(kids(1, 2, 3))}, api.Entry{Seq: 9, Edit: edit(cut(2)), Delta: steps(span(4, 5, 6), drop(7))}),
			"C2,1,2,1,3,2,p2:0,c1,1,2,1,0,0,0,2,2,3,0,9,1,c2,2,3,4,0,5,6,0,0,7,0,0,0,0,"},
		{full, "S2,9,3,4,2,1,3:[1]0,3,3,0,0,0,3,1,1,1,2,0,3,1,2,2,5,1,2,0,"},
		{open, "S2,9,3,4,2,0,3:[1]0,3,3,0,0,0,3,1,1,1,2,0,3,1,2,2,5,1,2,0,"},
		{snap("", must("")), "S0,0,0,0,0,0,0:0,2,2,0,0,0,0,1,1,1,7,0,0,0,"},
		{snap("", api.Tree{Next: 1, Nodes: []api.Node{{}}}), "S0,0,0,0,0,0,0:0,1,1,0,0,0,0,0,"},
		{snap("7,8:", api.Tree{Root: 5, Next: 16777216, Nodes: []api.Node{{Id: 5, To: 4}}}), "S0,0,0,0,0,0,4:7,8:5,16777216,1,5,0,0,4,0,"},
		{api.Msg{Kind: api.MsgSnap, Client: 1, Rev: 4096, Seq: 4096, From: 4096, Last: 4096, Refused: true, Text: `[1,{"a":1}]`, Tree: many()},
			`S1,4096,4096,4096,4096,1,11:[1,{"a":1}]0,7,7,0,0,0,11,1,1,1,2,0,11,2,6,2,2,1,3,10,1,3,3,3,4,9,2,4,5,4,4,4,7,0,5,5,8,9,0,6,5,1,2,0,`},
	}
}

func TestTextsWrittenOut(t *testing.T) {
	for i, row := range rows() {
		if s, e := pack.Put(row.msg); s != row.text || e != api.OK {
			t.Errorf("P17.2: row %d: %s, %d, want %s", i, brief(s), e, brief(row.text))
		}
		if m, e := pack.Get(row.text); !same(m, row.msg) || e != api.OK {
			t.Errorf("P17.2: row %d: %s, %d, want %s", i, brief(m), e, brief(row.msg))
		}
		if !pack.May(row.msg) {
			t.Errorf("P17.1: row %d: %s may not be", i, brief(row.msg))
		}
		if s := plainPut(row.msg); s != row.text {
			t.Errorf("the test is wrong: row %d: %s", i, brief(s))
		}
	}
}

// Empty lists and none are one.
func TestEmptyLists(t *testing.T) {
	for i, row := range rows() {
		m := hollow(row.msg)
		if s, e := pack.Put(m); s != row.text || e != api.OK || !pack.May(m) {
			t.Errorf("P17.2: row %d: %s, %d, want %s", i, brief(s), e, brief(row.text))
		}
	}
}

// hollow is a message with empty lists for those that are none.
func hollow(m api.Msg) api.Msg {
	m = copyOf(m)
	fill(&m.Edit)
	fill(&m.Entries)
	fill(&m.Tree.Nodes)
	for i := range m.Entries {
		fill(&m.Entries[i].Edit)
		fill(&m.Entries[i].Delta)
		for k := range m.Entries[i].Delta {
			fill(&m.Entries[i].Delta[k].Kids)
		}
	}
	for i := range m.Tree.Nodes {
		fill(&m.Tree.Nodes[i].Kids)
	}
	return m
}

func fill[T any](list *[]T) {
	if *list == nil {
		*list = []T{}
	}
}

// copyOf is a message in memory of its own, but for its texts.
func copyOf(m api.Msg) api.Msg {
	m.Edit = slices.Clone(m.Edit)
	m.Entries = slices.Clone(m.Entries)
	for i, e := range m.Entries {
		e.Edit = slices.Clone(e.Edit)
		e.Delta = slices.Clone(e.Delta)
		for k := range e.Delta {
			e.Delta[k].Kids = slices.Clone(e.Delta[k].Kids)
		}
		m.Entries[i] = e
	}
	m.Tree.Nodes = slices.Clone(m.Tree.Nodes)
	for i := range m.Tree.Nodes {
		m.Tree.Nodes[i].Kids = slices.Clone(m.Tree.Nodes[i].Kids)
	}
	return m
}

// same: are two messages the same, an empty list and none being one?
func same(a, b api.Msg) bool {
	return a.Kind == b.Kind && a.Client == b.Client && a.Rev == b.Rev && a.Seq == b.Seq && a.From == b.From && a.Last == b.Last &&
		a.Refused == b.Refused && a.Text == b.Text && slices.Equal(a.Edit, b.Edit) &&
		slices.EqualFunc(a.Entries, b.Entries, sameEntry) &&
		a.Tree.Root == b.Tree.Root && a.Tree.Next == b.Tree.Next && slices.EqualFunc(a.Tree.Nodes, b.Tree.Nodes, sameNode)
}

func sameEntry(a, b api.Entry) bool {
	return a.Client == b.Client && a.Seq == b.Seq && slices.Equal(a.Edit, b.Edit) && slices.EqualFunc(a.Delta, b.Delta, sameStep)
}

func sameStep(a, b api.Step) bool {
	return a.Kind == b.Kind && a.Id == b.Id && a.Node == b.Node && a.From == b.From && a.To == b.To && slices.Equal(a.Kids, b.Kids)
}

func sameNode(a, b api.Node) bool {
	return a.Id == b.Id && a.Kind == b.Kind && a.From == b.From && a.To == b.To && slices.Equal(a.Kids, b.Kids)
}

// nothing: is a message the zero one, with lists that are none or empty?
func nothing(m api.Msg) bool {
	return same(m, api.Msg{})
}

// taken: may a message be, is its text put as the chapter says, and taken again? The text is told.
func taken(t *testing.T, name string, m api.Msg) string {
	t.Helper()
	if !pack.May(m) {
		t.Fatalf("P17.1: %s: %s may not be", name, brief(m))
	}
	s, e := pack.Put(m)
	if want := plainPut(m); s != want || e != api.OK {
		t.Fatalf("P17.2: %s: %s, %d, want %s", name, brief(s), e, brief(want))
	}
	if got, e := pack.Get(s); !same(got, m) || e != api.OK {
		t.Fatalf("P17.2: %s: %s, %d, want %s", name, brief(got), e, brief(m))
	}
	return s
}

// refused: may a message not be, and has it no text?
func refused(t *testing.T, name string, m api.Msg) {
	t.Helper()
	if pack.May(m) {
		t.Errorf("P17.1: %s: %s may be", name, brief(m))
	}
	if s, e := pack.Put(m); s != "" || e != api.ErrPackForm {
		t.Errorf("P17.2: %s: %s: %s, %d", name, brief(m), brief(s), e)
	}
}

// refusedText: has no message this text?
func refusedText(t *testing.T, name, s string) {
	t.Helper()
	if m, e := pack.Get(s); !nothing(m) || e != api.ErrPackForm {
		t.Errorf("P17.2: %s: %s: %s, %d", name, brief(s), brief(m), e)
	}
}

// refusedBoth: may a message not be, and is what would be its text none?
func refusedBoth(t *testing.T, name string, m api.Msg) {
	t.Helper()
	refused(t, name, m)
	refusedText(t, name, plainPut(m))
}

// Texts that hold what texts are made of come back whole.
func TestTextsWithinTexts(t *testing.T) {
	all := []string{"", ",", ":", "0", "1,", "3:", ":3", "3:abc", "k1,", "p1:a", "c1,", "P0,0,0,0,", "C0,0,0,", "-1,", " ", "\n", "\x00", "\xff", "é", "\u2028", strings.Repeat("9", 40), strings.Repeat(",", 40), strings.Repeat(":", 40)}
	for _, row := range rows() {
		all = append(all, row.text)
	}
	for _, s := range all {
		for _, u := range all {
			if s != "" && u != "" {
				taken(t, "puts", poll(0, 1, 2, put(s), keep(1), put(u), cut(3)))
				e := api.Entry{Seq: 1, Edit: edit(put(s), keep(1), put(u))}
				taken(t, "puts of entries", changes(0, 1, e, e))
			}
		}
		if len(s) <= api.MaxDoc {
			taken(t, "the text", snap(s, must(s)))
		}
	}
}
