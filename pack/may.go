package pack

import (
	"slices"

	"minuet/api"
	"minuet/comp"
	"minuet/parse"
	"minuet/step"
)

// May: may a message be, by its form?
func May(m api.Msg) bool {
	// What its kind names is asked, and taken out: what is left must be zero.
	fits := false
	switch m.Kind {
	case api.MsgPoll:
		fits = comp.May(m.Edit) && (m.Seq > 0 || len(m.Edit) == 0)
		m.Edit = nil
	case api.MsgChanges:
		fits = m.Seq == 0 && len(m.Entries) <= api.MaxBatch && every(m.Entries, entry)
		m.Entries = nil
	case api.MsgSnap:
		fits = count(m.From) && count(m.Last) && len(m.Text) <= api.MaxDoc && parse.May(m.Tree, len(m.Text))
		m.From, m.Last, m.Refused, m.Text, m.Tree = 0, 0, false, "", api.Tree{}
	}
	return fits && client(m.Client) && count(m.Rev) && count(m.Seq) && bare(m)
}

// bare: has a message nothing beside what each kind names?
func bare(m api.Msg) bool {
	return m.From == 0 && m.Last == 0 && !m.Refused && len(m.Edit) == 0 && len(m.Entries) == 0 && m.Text == "" &&
		m.Tree.Root == 0 && m.Tree.Next == 0 && len(m.Tree.Nodes) == 0
}

// entry: may an entry be?
func entry(e api.Entry) bool {
	return client(e.Client) && count(e.Seq) && e.Seq > 0 && comp.May(e.Edit) &&
		len(e.Delta) <= step.Most && every(e.Delta, step.May)
}

// every: may each of a list be?
func every[T any](all []T, may func(T) bool) bool {
	return !slices.ContainsFunc(all, func(one T) bool { return !may(one) })
}

// client: may a number be a client's?
func client(n int) bool {
	return 0 <= n && n < api.MaxClients
}

// count: may a number be a revision, or an edit's number, or none of these yet?
func count(n int) bool {
	return 0 <= n && n <= api.MaxRev
}
