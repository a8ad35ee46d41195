package frame_test

import (
	"slices"
	"strings"
	"sync"
	"testing"
	"unsafe"

	"minuet/api"
	"minuet/frame"
	"minuet/pack"
)

// The rules of all calls: what is handed in stays as it was, and memory is shared with nothing.

const mark = -77

// roomy is a list in memory of its own, with spare room that is marked.
func roomy[T any](list []T, marked T) []T {
	out := append(append([]T(nil), list...), marked, marked, marked)
	return out[:len(list)]
}

// store is texts in memory that may be written over.
type store [][]byte

func (b *store) text(s string) string {
	if s == "" {
		return ""
	}
	own := []byte(s)
	*b = append(*b, own)
	return unsafe.String(&own[0], len(own))
}

// spoil writes over all that the texts hold.
func (b *store) spoil() {
	for _, own := range *b {
		for i := range own {
			own[i] = '#'
		}
	}
}

// apart is a message whose lists all have spare room that is marked, and whose texts may be written over.
func apart(m api.Msg) (api.Msg, *store) {
	b := &store{}
	pieces := func(cs []api.Comp) []api.Comp {
		cs = roomy(cs, api.Comp{Kind: mark, N: mark, Text: "mark"})
		for i := range cs {
			cs[i].Text = b.text(cs[i].Text)
		}
		return cs
	}
	m.Text = b.text(m.Text)
	m.Edit = pieces(m.Edit)
	m.Entries = roomy(m.Entries, api.Entry{Client: mark, Seq: mark})
	for i, e := range m.Entries {
		e.Edit = pieces(e.Edit)
		e.Delta = roomy(e.Delta, api.Step{Kind: mark, Id: mark})
		for k := range e.Delta {
			e.Delta[k].Kids = roomy(e.Delta[k].Kids, mark)
		}
		m.Entries[i] = e
	}
	m.Tree.Nodes = roomy(m.Tree.Nodes, api.Node{Id: mark, Kind: mark})
	for i := range m.Tree.Nodes {
		m.Tree.Nodes[i].Kids = roomy(m.Tree.Nodes[i].Kids, mark)
	}
	return m, b
}

// spare is a list's spare room: three, if it was made by apart.
func spare[T any](list []T) []T {
	return list[len(list):min(cap(list), len(list)+3)]
}

// marked: is all spare room of a message that was made by apart still marked?
func marked(m api.Msg) bool {
	ok := true
	ints := func(list []int) { ok = ok && slices.Equal(spare(list), []int{mark, mark, mark}) }
	pieces := func(cs []api.Comp) {
		c := api.Comp{Kind: mark, N: mark, Text: "mark"}
		ok = ok && slices.Equal(spare(cs), edit(c, c, c))
	}
	pieces(m.Edit)
	e := api.Entry{Client: mark, Seq: mark}
	ok = ok && slices.EqualFunc(spare(m.Entries), []api.Entry{e, e, e}, sameEntry)
	for _, e := range m.Entries {
		pieces(e.Edit)
		s := api.Step{Kind: mark, Id: mark}
		ok = ok && slices.EqualFunc(spare(e.Delta), steps(s, s, s), sameStep)
		for _, s := range e.Delta {
			ints(s.Kids)
		}
	}
	n := api.Node{Id: mark, Kind: mark}
	ok = ok && slices.EqualFunc(spare(m.Tree.Nodes), []api.Node{n, n, n}, sameNode)
	for _, n := range m.Tree.Nodes {
		ints(n.Kids)
	}
	return ok
}

// filled is a list that may be filled with a number, its spare room too, and asked whether it still is.
type filled struct {
	fill  func(by int)
	holds func(by int) bool
}

// lists are all lists of a message, those that others hold ahead of these.
func lists(m api.Msg) []filled {
	var out []filled
	for _, e := range m.Entries {
		for _, s := range e.Delta {
			out = append(out, of(s.Kids, func(k *int) *int { return k }))
		}
		out = append(out, of(e.Edit, func(c *api.Comp) *int { return &c.N }), of(e.Delta, func(s *api.Step) *int { return &s.Id }))
	}
	for _, n := range m.Tree.Nodes {
		out = append(out, of(n.Kids, func(k *int) *int { return k }))
	}
	return append(out, of(m.Edit, func(c *api.Comp) *int { return &c.N }), of(m.Tree.Nodes, func(n *api.Node) *int { return &n.Id }), of(m.Entries, func(e *api.Entry) *int { return &e.Seq }))
}

func of[T any](list []T, number func(*T) *int) filled {
	list = list[:cap(list)]
	return filled{
		func(by int) {
			for i := range list {
				*number(&list[i]) = by
			}
		},
		func(by int) bool {
			return !slices.ContainsFunc(list, func(x T) bool { return *number(&x) != by })
		},
	}
}

// spoil writes over all lists of a message, their spare room too.
func spoil(m api.Msg) {
	for _, l := range lists(m) {
		l.fill(-5)
	}
}

// messages are of each sort: such as have frames, and such as have none.
func messages() []api.Msg {
	var out []api.Msg
	for _, row := range rows() {
		out = append(out, row.msg)
	}
	for _, m := range wrong() {
		out = append(out, m)
	}
	return out
}

// plainPut is a message's frame, if it has one.
func plainPut(m api.Msg) string {
	if text, e := pack.Put(m); e == api.OK {
		return wrapped(text)
	}
	return ""
}

// R4: what Put is handed stays as it was, and the frame shares no memory with it, nor with another answer.
func TestLeavesItsMessage(t *testing.T) {
	for i, was := range messages() {
		m, texts := apart(was)
		s, e := frame.Put(m)
		if !same(m, was) || !marked(m) {
			t.Fatalf("R4: row %d: Put turned %s to %s", i, brief(was), brief(m))
		}
		again, f := frame.Put(m)
		if s != again || e != f {
			t.Fatalf("R5: row %d: %s, %d, then %s, %d", i, brief(s), e, brief(again), f)
		}
		if overlap(s, again) {
			t.Errorf("R4: row %d: two answers are one", i)
		}
		spoil(m)
		texts.spoil()
		if want := plainPut(was); s != want || again != want {
			t.Fatalf("R4: row %d: %s hangs on what was handed in: %s", i, brief(want), brief(s))
		}
	}
}

// R4: what Get is handed stays as it was; what it answers shares no memory with that, nor with another answer.
func TestLeavesItsFrame(t *testing.T) {
	all := []string{"", "9", "9:2096:", "9:2096:P0,0,0,0", wrapped("P0,0,0,1,k5,"), "7:1303:C0,0,1,"}
	for _, row := range rows() {
		all = append(all, row.frame, row.frame[1:])
	}
	for _, was := range all {
		want, found := plainGet(was)
		b := &store{}
		s := b.text("ahead" + was + "behind")[5 : 5+len(was)]
		got, e := frame.Get(s)
		again, f := frame.Get(s)
		if s != was || string((*b)[0]) != "ahead"+was+"behind" {
			t.Fatalf("R4: %s was turned to %s", brief(was), brief((*b)[0]))
		}
		if found != (e == api.OK) || e != f || !same(got, want) {
			t.Fatalf("P18.1: %s: %s, %d", brief(was), brief(got), e)
		}
		b.spoil()
		spoil(got)
		if !same(again, want) {
			t.Fatalf("R4: %s: %s hangs on what was handed in, or on another answer", brief(was), brief(again))
		}
		if third, _ := frame.Get(was); !same(third, want) {
			t.Fatalf("R4: %s: %s hangs on another answer", brief(was), brief(third))
		}
	}
}

// R4: no two lists of one answer share memory, their spare room neither.
func TestListsOfOneAnswerAreTheirOwn(t *testing.T) {
	most := 0
	for _, row := range rows() {
		got, e := frame.Get(row.frame)
		if e != api.OK {
			t.Fatalf("P18.1: %s: %d", brief(row.frame), e)
		}
		all := lists(got)
		most = max(most, len(all))
		for i, l := range all {
			l.fill(1000 + i)
		}
		for i, l := range all {
			if !l.holds(1000 + i) {
				t.Errorf("R4: %s: list %d shares memory", brief(row.frame), i)
			}
		}
	}
	if most < 10 {
		t.Errorf("the test is wrong: %d lists", most)
	}
}

// R4: a text of an answer holds no more than itself.
func TestTextsOfAnswersAreTheirOwn(t *testing.T) {
	for _, n := range []int{1, 2, 31, 300} {
		s := strings.Repeat("x", n)
		for _, m := range []api.Msg{poll(0, 0, 1, put(s), keep(1), put(s)), changes(0, 0, api.Entry{Seq: 1, Edit: edit(put(s))}, api.Entry{Seq: 1, Edit: edit(put(s))}), snap(s, wide(n))} {
			whole := taken(t, "a text", m)
			got, _ := frame.Get(whole)
			cs := slices.Clone(got.Edit)
			for _, e := range got.Entries {
				cs = append(cs, e.Edit...)
			}
			all := []string{whole, got.Text}
			for _, c := range cs {
				all = append(all, c.Text)
			}
			for i, a := range all {
				for _, b := range all[:i] {
					if overlap(a, b) {
						t.Errorf("R4: two texts share memory: %s", brief(whole))
					}
				}
			}
		}
	}
}

// overlap: do two texts share memory?
func overlap(a, b string) bool {
	if a == "" || b == "" {
		return false
	}
	x, y := uintptr(unsafe.Pointer(unsafe.StringData(a))), uintptr(unsafe.Pointer(unsafe.StringData(b)))
	return x < y+uintptr(len(b)) && y < x+uintptr(len(a))
}

// R5: what was asked between turns nothing, a refusal neither.
func TestOneAnswerForOneQuestion(t *testing.T) {
	all := messages()
	for i, m := range all {
		for _, other := range []api.Msg{all[(i+1)%len(all)], all[(i*7+3)%len(all)]} {
			frame.Put(other)
			frame.Get(plainPut(other))
			frame.Get("9:2096:P0,0,1,0,")
			if plainPut(m) != "" {
				taken(t, "again", m)
			} else {
				refused(t, "again", m)
			}
			none(t, "again", "9:2097:P0,0,0,0,")
		}
	}
}

// R5: several call at one time.
func TestSeveralAtOneTime(t *testing.T) {
	all := messages()
	var wait sync.WaitGroup
	fail := make([]string, 8)
	for i := range fail {
		wait.Add(1)
		go func() {
			defer wait.Done()
			for range 10 {
				for k := range all {
					m := all[(i*5+k)%len(all)]
					want := plainPut(m)
					s, e := frame.Put(m)
					got, f := frame.Get(want)
					if s != want || (e == api.OK) != (want != "") || e != f || want != "" && !same(got, m) {
						fail[i] = brief(m)
					}
					spoil(got)
				}
			}
		}()
	}
	wait.Wait()
	for _, f := range fail {
		if f != "" {
			t.Errorf("R5: %s", f)
		}
	}
}
