package pack

import (
	"strings"

	"minuet/api"
)

// greatest is the greatest number of any message: a tree's Next.
const greatest = api.MaxIds

// taker takes a text from left to right. Where that is not as it is put, it is wrong, and nothing is left of it: so all
// that is asked from there on lacks too, and nothing is ever taken from behind the end.
type taker struct {
	left  string
	wrong bool
}

func (t *taker) refuse() {
	t.left, t.wrong = "", true
}

// takeList takes how many there should be, and each of them by one, as long as there is something left: so a list that
// says more than the text has takes no more time and memory than the text.
func takeList[T any](t *taker, one func() T) []T {
	var all []T
	for n := t.number(); n > 0 && !t.wrong; n-- {
		all = append(all, one())
	}
	return all
}

// digits takes a number, with no 0 ahead of it, and the byte that ends it.
func (t *taker) digits(end byte) int {
	n, size := 0, 0
	for n <= greatest && size < len(t.left) && '0' <= t.left[size] && t.left[size] <= '9' {
		n = 10*n + int(t.left[size]-'0')
		size++
	}
	plain := size == 1 || size > 1 && t.left[0] != '0'
	if !plain || n > greatest || size == len(t.left) || t.left[size] != end {
		t.refuse()
		return 0
	}
	t.left = t.left[size+1:]
	return n
}

func (t *taker) number() int {
	return t.digits(',')
}

// text takes a text, and copies it, so that the answer holds none of what was handed in.
func (t *taker) text() string {
	n := t.digits(':')
	if n > len(t.left) {
		t.refuse()
		return ""
	}
	s := strings.Clone(t.left[:n])
	t.left = t.left[n:]
	return s
}

func (t *taker) truth() bool {
	n := t.number()
	if n > 1 {
		t.refuse()
	}
	return n == 1
}

// letter takes one of some letters, and tells its place among them.
func (t *taker) letter(letters string) int {
	at := -1
	if t.left != "" {
		at = strings.IndexByte(letters, t.left[0])
	}
	if at < 0 {
		t.refuse()
		return 0
	}
	t.left = t.left[1:]
	return at
}

// msg takes a message. Here and below, what stands in one literal is taken in the row in which it is written.
func (t *taker) msg() api.Msg {
	m := api.Msg{Kind: t.letter(msgLetters), Client: t.number(), Rev: t.number()}
	switch m.Kind {
	case api.MsgPoll:
		m.Seq = t.number()
		m.Edit = takeList(t, t.comp)
	case api.MsgChanges:
		m.Entries = takeList(t, t.entry)
	case api.MsgSnap:
		m.Seq, m.From, m.Last = t.number(), t.number(), t.number()
		m.Refused = t.truth()
		m.Text = t.text()
		m.Tree = t.tree()
	}
	return m
}

func (t *taker) comp() api.Comp {
	c := api.Comp{Kind: t.letter(compLetters)}
	if c.Kind == api.CompPut {
		c.Text = t.text()
	} else {
		c.N = t.number()
	}
	return c
}

func (t *taker) entry() api.Entry {
	return api.Entry{Client: t.number(), Seq: t.number(), Edit: takeList(t, t.comp), Delta: takeList(t, t.step)}
}

func (t *taker) step() api.Step {
	return api.Step{Kind: t.number(), Id: t.number(), Node: t.number(), From: t.number(), To: t.number(), Kids: takeList(t, t.number)}
}

func (t *taker) tree() api.Tree {
	return api.Tree{Root: t.number(), Next: t.number(), Nodes: takeList(t, t.node)}
}

func (t *taker) node() api.Node {
	return api.Node{Id: t.number(), Kind: t.number(), From: t.number(), To: t.number(), Kids: takeList(t, t.number)}
}
