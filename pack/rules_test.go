package pack_test

import (
	"slices"
	"strings"
	"sync"
	"testing"
	"unsafe"

	"minuet/api"
	"minuet/pack"
)

// The rules of all calls: what is handed in stays as it was, and memory is shared with nothing.

const mark = -77

// roomy is a list in memory of its own, with spare room that is marked.
func roomy[T any](list []T, marked T) []T {
	out := append(append([]T(nil), list...), marked, marked, marked)
	return out[:len(list)]
}

// store is texts in memory that may be written over.
type store [][]byte

func (b *store) text(s string) string {
	if s == "" {
		return ""
	}
	own := []byte(s)
	*b = append(*b, own)
	return unsafe.String(&own[0], len(own))
}

// spoil writes over all that the texts hold.
func (b *store) spoil() {
	for _, own := range *b {
		for i := range own {
			own[i] = '#'
		}
	}
}

// apart is a message whose lists all have spare room that is marked, and whose texts may be written over.
func apart(m api.Msg) (api.Msg, *store) {
	b := &store{}
	pieces := func(cs []api.Comp) []api.Comp {
		cs = roomy(cs, api.Comp{Kind: mark, N: mark, Text: "mark"})
		for i := range cs {
			cs[i].Text = b.text(cs[i].Text)
		}
		return cs
	}
	m.Text = b.text(m.Text)
	m.Edit = pieces(m.Edit)
	m.Entries = roomy(m.Entries, api.Entry{Client: mark, Seq: mark})
	for i, e := range m.Entries {
		e.Edit = pieces(e.Edit)
		e.Delta = roomy(e.Delta, api.Step{Kind: mark, Id: mark})
		for k := range e.Delta {
			e.Delta[k].Kids = roomy(e.Delta[k].Kids, mark)
		}
		m.Entries[i] = e
	}
	m.Tree.Nodes = roomy(m.Tree.Nodes, api.Node{Id: mark, Kind: mark})
	for i := range m.Tree.Nodes {
		m.Tree.Nodes[i].Kids = roomy(m.Tree.Nodes[i].Kids, mark)
	}
	return m, b
}

// spare is a list's spare room: three, if it was made by apart.
func spare[T any](list []T) []T {
	return list[len(list):min(cap(list), len(list)+3)]
}

// marked: is all spare room of a message that was made by apart still marked?
func marked(m api.Msg) bool {
	ok := true
	ints := func(list []int) { ok = ok && slices.Equal(spare(list), []int{mark, mark, mark}) }
	pieces := func(cs []api.Comp) {
		c := api.Comp{Kind: mark, N: mark, Text: "mark"}
		ok = ok && slices.Equal(spare(cs), edit(c, c, c))
	}
	pieces(m.Edit)
	e := api.Entry{Client: mark, Seq: mark}
	ok = ok && slices.EqualFunc(spare(m.Entries), []api.Entry{e, e, e}, sameEntry)
	for _, e := range m.Entries {
		pieces(e.Edit)
		s := api.Step{Kind: mark, Id: mark}
		ok = ok && slices.EqualFunc(spare(e.Delta), steps(s, s, s), sameStep)
		for _, s := range e.Delta {
			ints(s.Kids)
		}
	}
	n := api.Node{Id: mark, Kind: mark}
	ok = ok && slices.EqualFunc(spare(m.Tree.Nodes), []api.Node{n, n, n}, sameNode)
	for _, n := range m.Tree.Nodes {
		ints(n.Kids)
	}
	return ok
}

// spoil writes over all lists of a message, their spare room too.
func spoil(m api.Msg) {
	for _, e := range m.Entries {
		overwrite(e.Edit, api.Comp{Kind: -5, N: -5, Text: "spoilt"})
		for _, s := range e.Delta {
			overwrite(s.Kids, -5)
		}
		overwrite(e.Delta, api.Step{Kind: -5, Id: -5})
	}
	for _, n := range m.Tree.Nodes {
		overwrite(n.Kids, -5)
	}
	overwrite(m.Tree.Nodes, api.Node{Id: -5})
	overwrite(m.Entries, api.Entry{Client: -5})
	overwrite(m.Edit, api.Comp{Kind: -5, N: -5, Text: "spoilt"})
}

func overwrite[T any](list []T, by T) {
	list = list[:cap(list)]
	for i := range list {
		list[i] = by
	}
}

// messages are of each sort: such as may be, and such as may not.
func messages() []api.Msg {
	var out []api.Msg
	for _, row := range rows() {
		out = append(out, row.msg)
	}
	for kind := range 3 {
		out = append(out, full(kind))
		m := full(kind)
		m.Client = 3
		out = append(out, m)
		m = full(kind)
		m.Kind = (kind + 1) % 3
		out = append(out, m)
	}
	for _, e := range wrongEdits() {
		if len(e) < 10 {
			out = append(out, poll(1, 2, 3, e...), changes(1, 2, api.Entry{Seq: 1}, api.Entry{Seq: 2, Edit: e}))
		}
	}
	for _, s := range wrongSteps() {
		out = append(out, changes(1, 2, api.Entry{Seq: 1, Delta: steps(kids(1, 2, 3), s)}))
	}
	for _, turn := range wrongTrees() {
		m := full(api.MsgSnap)
		turn(&m.Tree)
		out = append(out, m)
	}
	return out
}

// R4: what Put and May are handed stays as it was, and the text shares no memory with it.
func TestLeavesItsMessage(t *testing.T) {
	for i, was := range messages() {
		m, texts := apart(was)
		may := pack.May(m)
		if !same(m, was) || !marked(m) {
			t.Fatalf("R4: row %d: May turned %s to %s", i, brief(was), brief(m))
		}
		s, e := pack.Put(m)
		if !same(m, was) || !marked(m) {
			t.Fatalf("R4: row %d: Put turned %s to %s", i, brief(was), brief(m))
		}
		again, f := pack.Put(m)
		if may != pack.May(m) || s != again || e != f {
			t.Fatalf("R5: row %d: %s, %d, then %s, %d", i, brief(s), e, brief(again), f)
		}
		if s != "" && unsafe.StringData(s) == unsafe.StringData(again) {
			t.Errorf("R4: row %d: two answers are one", i)
		}
		spoil(m)
		texts.spoil()
		if want := plainPut(was); may && (s != want || again != want) {
			t.Fatalf("R4: row %d: %s hangs on what was handed in: %s", i, brief(want), brief(s))
		}
	}
}

// R4: what Get is handed stays as it was; what it answers shares no memory with that, nor with another answer.
func TestLeavesItsText(t *testing.T) {
	all := []string{"", "P", "P0,0,1,1,p1:", "S0,0,0,0,0,0,3:abc", "C0,0,1,0,1,1,p2:ab1,"}
	for _, m := range messages() {
		all = append(all, plainPut(m))
	}
	for _, was := range all {
		want, found := plainGet(was)
		b := &store{}
		s := b.text("ahead" + was + "behind")[5 : 5+len(was)]
		got, e := pack.Get(s)
		again, f := pack.Get(s)
		if s != was || string((*b)[0]) != "ahead"+was+"behind" {
			t.Fatalf("R4: %s was turned to %s", brief(was), brief((*b)[0]))
		}
		if found != (e == api.OK) || e != f || !same(got, want) {
			t.Fatalf("P17.2: %s: %s, %d", brief(was), brief(got), e)
		}
		b.spoil()
		spoil(got)
		if !same(again, want) {
			t.Fatalf("R4: %s: %s hangs on what was handed in, or on another answer", brief(was), brief(again))
		}
		third, _ := pack.Get(was)
		spoil(third)
		if fourth, _ := pack.Get(was); !same(fourth, want) {
			t.Fatalf("R4: %s: %s hangs on another answer", brief(was), brief(fourth))
		}
	}
}

// filled is a list that may be filled with a number, its spare room too, and asked whether it still is.
type filled struct {
	fill  func(by int)
	holds func(by int) bool
}

// lists are all lists of a message.
func lists(m api.Msg) []filled {
	out := []filled{of(m.Edit, func(c *api.Comp) *int { return &c.N }), of(m.Tree.Nodes, func(n *api.Node) *int { return &n.Id })}
	out = append(out, of(m.Entries, func(e *api.Entry) *int { return &e.Seq }))
	for _, e := range m.Entries {
		out = append(out, of(e.Edit, func(c *api.Comp) *int { return &c.N }), of(e.Delta, func(s *api.Step) *int { return &s.Id }))
		for _, s := range e.Delta {
			out = append(out, of(s.Kids, func(k *int) *int { return k }))
		}
	}
	for _, n := range m.Tree.Nodes {
		out = append(out, of(n.Kids, func(k *int) *int { return k }))
	}
	return out
}

func of[T any](list []T, number func(*T) *int) filled {
	list = list[:cap(list)]
	return filled{
		func(by int) {
			for i := range list {
				*number(&list[i]) = by
			}
		},
		func(by int) bool {
			return !slices.ContainsFunc(list, func(x T) bool { return *number(&x) != by })
		},
	}
}

// R4: no two lists of one answer share memory, their spare room neither.
func TestListsOfOneAnswerAreTheirOwn(t *testing.T) {
	most := 0
	for _, m := range messages() {
		if !plainMay(m) {
			continue
		}
		got, e := pack.Get(plainPut(m))
		if e != api.OK {
			t.Fatalf("P17.2: %s: %d", brief(m), e)
		}
		all := lists(got)
		most = max(most, len(all))
		for i, l := range all {
			l.fill(1000 + i)
		}
		for i, l := range all {
			if !l.holds(1000 + i) {
				t.Errorf("R4: %s: list %d shares memory", brief(m), i)
			}
		}
	}
	if most < 20 {
		t.Errorf("the test is wrong: %d lists", most)
	}
}

// R4: pieces of one list that are handed in as several ones are put, and come back apart.
func TestListsThatShare(t *testing.T) {
	all := []int{1, 2, 3, 4, 5, 6}
	cs := edit(keep(1), put("a"), cut(2), keep(3))
	ss := steps(kids(1, all[:2]...), kids(2, all[1:4]...), kids(3, all[:0]...), kids(4, all...), drop(5))
	m := changes(0, 1, api.Entry{Seq: 1, Edit: cs[:2], Delta: ss[:3]}, api.Entry{Seq: 2, Edit: cs[1:], Delta: ss[1:]}, api.Entry{Seq: 3, Edit: cs, Delta: ss})
	want := copyOf(m)
	s := taken(t, "shared", m)
	if !same(m, want) || !slices.Equal(all, []int{1, 2, 3, 4, 5, 6}) {
		t.Errorf("R4: %s", brief(m))
	}
	got, _ := pack.Get(s)
	for i, l := range lists(got) {
		l.fill(i)
	}
	for i, l := range lists(got) {
		if !l.holds(i) {
			t.Errorf("R4: list %d shares memory", i)
		}
	}
}

// R4: a text of an answer holds no more than itself.
func TestTextsOfAnswersAreTheirOwn(t *testing.T) {
	for _, n := range []int{1, 2, 31, 300} {
		s := strings.Repeat("x", n)
		for _, m := range []api.Msg{poll(0, 0, 1, put(s), keep(1), put(s)), changes(0, 0, api.Entry{Seq: 1, Edit: edit(put(s))}, api.Entry{Seq: 1, Edit: edit(put(s))}), snap(s, wide(1, n))} {
			text := plainPut(m)
			got, e := pack.Get(text)
			if e != api.OK {
				t.Fatalf("P17.2: %d", e)
			}
			cs := slices.Clone(got.Edit)
			for _, e := range got.Entries {
				cs = append(cs, e.Edit...)
			}
			all := []string{text, got.Text}
			for _, c := range cs {
				all = append(all, c.Text)
			}
			for i, a := range all {
				for _, b := range all[:i] {
					if overlap(a, b) {
						t.Errorf("R4: two texts share memory: %s", brief(text))
					}
				}
			}
		}
	}
}

// overlap: do two texts share memory?
func overlap(a, b string) bool {
	if a == "" || b == "" {
		return false
	}
	x, y := uintptr(unsafe.Pointer(unsafe.StringData(a))), uintptr(unsafe.Pointer(unsafe.StringData(b)))
	return x < y+uintptr(len(b)) && y < x+uintptr(len(a))
}

// R5: what was asked between turns nothing, a refusal neither.
func TestOneAnswerForOneQuestion(t *testing.T) {
	all := messages()
	for i, m := range all {
		for _, other := range []api.Msg{all[(i+1)%len(all)], all[(i*7+3)%len(all)]} {
			pack.Put(other)
			pack.Get(plainPut(other))
			pack.Get("P0,0,1,3,k1,p1:")
			if plainMay(m) {
				taken(t, "again", m)
			} else {
				refused(t, "again", m)
			}
			asked(t, plainPut(m))
		}
	}
}

// R5: several call at one time.
func TestSeveralAtOneTime(t *testing.T) {
	all := messages()
	var wait sync.WaitGroup
	fail := make([]string, 8)
	for i := range fail {
		wait.Add(1)
		go func() {
			defer wait.Done()
			for round := range 10 {
				m := all[(i*5+round)%len(all)]
				for _, m := range append(all[:len(all):len(all)], m) {
					s, e := pack.Put(m)
					may := plainMay(m)
					got, f := pack.Get(plainPut(m))
					want, found := plainGet(plainPut(m))
					if pack.May(m) != may || may != (e == api.OK) || may && s != plainPut(m) || found != (f == api.OK) || !same(got, want) {
						fail[i] = brief(m)
					}
					spoil(got)
				}
			}
		}()
	}
	wait.Wait()
	for _, f := range fail {
		if f != "" {
			t.Errorf("R5: %s", f)
		}
	}
}
