package pack_test

import (
	"fmt"
	"strconv"
	"strings"

	"minuet/api"
	"minuet/comp"
	"minuet/parse"
)

// The chapter's words in a plain form.

func plainCount(n int) bool  { return 0 <= n && n <= 4096 }
func plainClient(n int) bool { return n == 0 || n == 1 || n == 2 }
func plainId(n int) bool     { return 0 <= n && n < 16777216 }

// plainMay: may a message be, by the words of the chapter?
func plainMay(m api.Msg) bool {
	if !plainClient(m.Client) || !plainCount(m.Rev) || !plainCount(m.Seq) {
		return false
	}
	noSnap := m.From == 0 && m.Last == 0 && !m.Refused && m.Text == "" && m.Tree.Root == 0 && m.Tree.Next == 0 && len(m.Tree.Nodes) == 0
	switch m.Kind {
	case 0:
		if m.Seq == 0 && len(m.Edit) > 0 {
			return false
		}
		return noSnap && len(m.Entries) == 0 && comp.May(m.Edit)
	case 1:
		for _, e := range m.Entries {
			if !plainEntry(e) {
				return false
			}
		}
		return noSnap && m.Seq == 0 && len(m.Edit) == 0 && len(m.Entries) <= 3
	case 2:
		return len(m.Edit) == 0 && len(m.Entries) == 0 && plainCount(m.From) && plainCount(m.Last) && len(m.Text) <= 300 && parse.May(m.Tree, len(m.Text))
	}
	return false
}

// plainEntry: may an entry be?
func plainEntry(e api.Entry) bool {
	for _, s := range e.Delta {
		if !plainStep(s) {
			return false
		}
	}
	return plainClient(e.Client) && 1 <= e.Seq && e.Seq <= 4096 && comp.May(e.Edit) && len(e.Delta) <= 8192
}

// plainStep: may a step be?
func plainStep(s api.Step) bool {
	for _, k := range s.Kids {
		if !plainId(k) {
			return false
		}
	}
	noSpan := s.From == 0 && s.To == 0
	switch s.Kind {
	case 0:
		return plainId(s.Id) && s.Node == 0 && noSpan && len(s.Kids) == 0
	case 1:
		return plainId(s.Id) && 0 <= s.Node && s.Node <= 7 && noSpan && len(s.Kids) == 0
	case 2:
		return plainId(s.Id) && s.Node == 0 && noSpan && len(s.Kids) <= 2048
	case 3:
		return plainId(s.Id) && s.Node == 0 && 0 <= s.From && s.From <= s.To && s.To <= 4096 && len(s.Kids) == 0
	}
	return false
}

// plainPut is a message's text by the words of the chapter, whether it may be or not, however long.
func plainPut(m api.Msg) string {
	var b strings.Builder
	numbers := func(ns ...int) {
		for _, n := range ns {
			b.WriteString(strconv.Itoa(n) + ",")
		}
	}
	list := func(ns []int) {
		numbers(len(ns))
		numbers(ns...)
	}
	pieces := func(cs []api.Comp) {
		numbers(len(cs))
		for _, c := range cs {
			switch c.Kind {
			case api.CompKeep:
				fmt.Fprintf(&b, "k%d,", c.N)
			case api.CompCut:
				fmt.Fprintf(&b, "c%d,", c.N)
			case api.CompPut:
				fmt.Fprintf(&b, "p%d:%s", len(c.Text), c.Text)
			default:
				fmt.Fprintf(&b, "?%d,", c.N)
			}
		}
	}
	switch m.Kind {
	case api.MsgPoll:
		b.WriteString("P")
		numbers(m.Client, m.Rev, m.Seq)
		pieces(m.Edit)
	case api.MsgChanges:
		b.WriteString("C")
		numbers(m.Client, m.Rev, len(m.Entries))
		for _, e := range m.Entries {
			numbers(e.Client, e.Seq)
			pieces(e.Edit)
			numbers(len(e.Delta))
			for _, s := range e.Delta {
				numbers(s.Kind, s.Id, s.Node, s.From, s.To)
				list(s.Kids)
			}
		}
	case api.MsgSnap:
		b.WriteString("S")
		numbers(m.Client, m.Rev, m.Seq, m.From, m.Last, map[bool]int{true: 1}[m.Refused])
		fmt.Fprintf(&b, "%d:%s", len(m.Text), m.Text)
		numbers(m.Tree.Root, m.Tree.Next, len(m.Tree.Nodes))
		for _, n := range m.Tree.Nodes {
			numbers(n.Id, n.Kind, n.From, n.To)
			list(n.Kids)
		}
	}
	return b.String()
}

// loose takes a text in the plainest way: it takes numbers that are not as they are put, too, and panics where there is
// nothing to take.
type loose struct{ s string }

func (l *loose) upTo(end string) int {
	digits, rest, found := strings.Cut(l.s, end)
	n, err := strconv.Atoi(digits)
	if !found || err != nil {
		panic("no number")
	}
	l.s = rest
	return n
}

func (l *loose) number() int { return l.upTo(",") }

func (l *loose) first(n int) string {
	s := l.s[:n]
	l.s = l.s[n:]
	return s
}

func (l *loose) kids() []int {
	var all []int
	for range l.number() {
		all = append(all, l.number())
	}
	return all
}

func (l *loose) edit() []api.Comp {
	var all []api.Comp
	for range l.number() {
		switch l.first(1) {
		case "k":
			all = append(all, api.Comp{Kind: api.CompKeep, N: l.number()})
		case "c":
			all = append(all, api.Comp{Kind: api.CompCut, N: l.number()})
		case "p":
			all = append(all, api.Comp{Kind: api.CompPut, Text: l.first(l.upTo(":"))})
		default:
			panic("no piece")
		}
	}
	return all
}

func (l *loose) entry() api.Entry {
	var e api.Entry
	e.Client = l.number()
	e.Seq = l.number()
	e.Edit = l.edit()
	for range l.number() {
		var s api.Step
		for _, to := range []*int{&s.Kind, &s.Id, &s.Node, &s.From, &s.To} {
			*to = l.number()
		}
		s.Kids = l.kids()
		e.Delta = append(e.Delta, s)
	}
	return e
}

func (l *loose) tree() api.Tree {
	var t api.Tree
	t.Root = l.number()
	t.Next = l.number()
	for range l.number() {
		var n api.Node
		for _, to := range []*int{&n.Id, &n.Kind, &n.From, &n.To} {
			*to = l.number()
		}
		n.Kids = l.kids()
		t.Nodes = append(t.Nodes, n)
	}
	return t
}

func (l *loose) msg() api.Msg {
	var m api.Msg
	m.Kind = strings.Index("PCS", l.first(1))
	m.Client = l.number()
	m.Rev = l.number()
	switch m.Kind {
	case api.MsgPoll:
		m.Seq = l.number()
		m.Edit = l.edit()
	case api.MsgChanges:
		for range l.number() {
			m.Entries = append(m.Entries, l.entry())
		}
	case api.MsgSnap:
		for _, to := range []*int{&m.Seq, &m.From, &m.Last} {
			*to = l.number()
		}
		m.Refused = l.number() != 0
		m.Text = l.first(l.upTo(":"))
		m.Tree = l.tree()
	}
	return m
}

// plainGet is the message that has a text, if there is one: that which stands there in some way, if its text is just this.
func plainGet(s string) (m api.Msg, found bool) {
	defer func() {
		if recover() != nil {
			m, found = api.Msg{}, false
		}
	}()
	l := loose{s}
	m = l.msg()
	if !plainMay(m) || plainPut(m) != s || len(s) > 1000000 {
		return api.Msg{}, false
	}
	return m, true
}
