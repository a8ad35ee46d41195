package pack

import (
	"strconv"

	"minuet/api"
)

// putter makes a text, as far as a frame may go.
type putter struct {
	made []byte
}

// over: is the text too long already? Then nothing more of a list is put, for lists may be far longer than a frame.
func (p *putter) over() bool {
	return len(p.made) > api.MaxFrame
}

// putList puts how many there are, and each of them by one.
func putList[T any](p *putter, all []T, one func(T)) {
	p.number(len(all))
	for _, x := range all {
		if p.over() {
			return
		}
		one(x)
	}
}

// digits puts a number and the byte that ends it.
func (p *putter) digits(n int, end byte) {
	p.made = append(strconv.AppendInt(p.made, int64(n), 10), end)
}

func (p *putter) number(n int) {
	p.digits(n, ',')
}

func (p *putter) numbers(ns ...int) {
	for _, n := range ns {
		p.number(n)
	}
}

func (p *putter) text(s string) {
	p.digits(len(s), ':')
	p.made = append(p.made, s...)
}

func (p *putter) truth(is bool) {
	if is {
		p.number(1)
	} else {
		p.number(0)
	}
}

func (p *putter) letter(c byte) {
	p.made = append(p.made, c)
}

func (p *putter) msg(m api.Msg) {
	p.letter(msgLetters[m.Kind])
	p.numbers(m.Client, m.Rev)
	switch m.Kind {
	case api.MsgPoll:
		p.number(m.Seq)
		putList(p, m.Edit, p.comp)
	case api.MsgChanges:
		putList(p, m.Entries, p.entry)
	case api.MsgSnap:
		p.numbers(m.Seq, m.From, m.Last)
		p.truth(m.Refused)
		p.text(m.Text)
		p.tree(m.Tree)
	}
}

func (p *putter) comp(c api.Comp) {
	p.letter(compLetters[c.Kind])
	if c.Kind == api.CompPut {
		p.text(c.Text)
	} else {
		p.number(c.N)
	}
}

func (p *putter) entry(e api.Entry) {
	p.numbers(e.Client, e.Seq)
	putList(p, e.Edit, p.comp)
	putList(p, e.Delta, p.step)
}

func (p *putter) step(s api.Step) {
	p.numbers(s.Kind, s.Id, s.Node, s.From, s.To)
	putList(p, s.Kids, p.number)
}

func (p *putter) tree(t api.Tree) {
	p.numbers(t.Root, t.Next)
	putList(p, t.Nodes, p.node)
}

func (p *putter) node(n api.Node) {
	p.numbers(n.Id, n.Kind, n.From, n.To)
	putList(p, n.Kids, p.number)
}
