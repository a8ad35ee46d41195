package pack_test

import (
	"fmt"
	"math"
	"slices"
	"strings"
	"testing"

	"minuet/api"
	"minuet/pack"
)

// P17.1: which messages may be.

// far is numbers that are no message's, also such as would be within the ends in 8, 16 or 32 bits.
func far() []int {
	return []int{math.MinInt, math.MinInt + 1, math.MinInt32, -1 << 32, -1 << 16, -256, 1 << 31, 1 << 32, 1<<32 + 1, 1 << 48, math.MaxInt - 1, math.MaxInt}
}

// full is a message of a Kind with something in each list that it names.
func full(kind int) api.Msg {
	e := api.Entry{Client: 1, Seq: 5, Edit: edit(keep(2), put("ab"), cut(3)), Delta: steps(drop(4), create(5, 6), kids(7, 8, 9), span(10, 11, 12))}
	switch kind {
	case api.MsgPoll:
		return poll(1, 2, 3, keep(2), put("ab"), cut(3))
	case api.MsgChanges:
		return changes(1, 2, e, e, e)
	}
	return api.Msg{Kind: api.MsgSnap, Client: 1, Rev: 2, Seq: 3, From: 4, Last: 5, Refused: true, Text: `[1,{"a":1}]`, Tree: many()}
}

// field is a number of a full message, with its ends.
type field struct {
	name     string
	kind     int
	from, to int
	at       func(m *api.Msg) *int
}

func fields() []field {
	var out []field
	add := func(name string, kind, from, to int, at func(m *api.Msg) *int) {
		out = append(out, field{name, kind, from, to, at})
	}
	for kind := range 3 {
		add("Client", kind, 0, 2, func(m *api.Msg) *int { return &m.Client })
		add("Rev", kind, 0, 4096, func(m *api.Msg) *int { return &m.Rev })
	}
	add("Seq of a poll with an edit", api.MsgPoll, 1, 4096, func(m *api.Msg) *int { return &m.Seq })
	add("a kept length", api.MsgPoll, 1, 4093, func(m *api.Msg) *int { return &m.Edit[0].N })
	add("a cut length", api.MsgPoll, 1, 4094, func(m *api.Msg) *int { return &m.Edit[2].N })
	add("a put's N", api.MsgPoll, 0, 0, func(m *api.Msg) *int { return &m.Edit[1].N })
	add("Seq of changes", api.MsgChanges, 0, 0, func(m *api.Msg) *int { return &m.Seq })
	add("Seq of a snapshot", api.MsgSnap, 0, 4096, func(m *api.Msg) *int { return &m.Seq })
	add("From", api.MsgSnap, 0, 4096, func(m *api.Msg) *int { return &m.From })
	add("Last", api.MsgSnap, 0, 4096, func(m *api.Msg) *int { return &m.Last })
	for kind := range 2 {
		add("From", kind, 0, 0, func(m *api.Msg) *int { return &m.From })
		add("Last", kind, 0, 0, func(m *api.Msg) *int { return &m.Last })
		add("Root", kind, 0, 0, func(m *api.Msg) *int { return &m.Tree.Root })
		add("Next", kind, 0, 0, func(m *api.Msg) *int { return &m.Tree.Next })
	}
	for i := range 3 {
		step := func(k int, number func(s *api.Step) *int) func(m *api.Msg) *int {
			return func(m *api.Msg) *int { return number(&m.Entries[i].Delta[k]) }
		}
		add("Client of an entry", api.MsgChanges, 0, 2, func(m *api.Msg) *int { return &m.Entries[i].Client })
		add("Seq of an entry", api.MsgChanges, 1, 4096, func(m *api.Msg) *int { return &m.Entries[i].Seq })
		add("a kept length of an entry", api.MsgChanges, 1, 4093, func(m *api.Msg) *int { return &m.Entries[i].Edit[0].N })
		add("a cut length of an entry", api.MsgChanges, 1, 4094, func(m *api.Msg) *int { return &m.Entries[i].Edit[2].N })
		for k := range 4 {
			add("Id of a step", api.MsgChanges, 0, 16777215, step(k, func(s *api.Step) *int { return &s.Id }))
		}
		add("Node of a drop", api.MsgChanges, 0, 0, step(0, func(s *api.Step) *int { return &s.Node }))
		add("Node of a create", api.MsgChanges, 0, 7, step(1, func(s *api.Step) *int { return &s.Node }))
		add("From of a create", api.MsgChanges, 0, 0, step(1, func(s *api.Step) *int { return &s.From }))
		add("a child of a step", api.MsgChanges, 0, 16777215, step(2, func(s *api.Step) *int { return &s.Kids[0] }))
		add("the last child of a step", api.MsgChanges, 0, 16777215, step(2, func(s *api.Step) *int { return &s.Kids[1] }))
		add("To of kids", api.MsgChanges, 0, 0, step(2, func(s *api.Step) *int { return &s.To }))
		add("From of a span", api.MsgChanges, 0, 12, step(3, func(s *api.Step) *int { return &s.From }))
		add("To of a span", api.MsgChanges, 11, 4096, step(3, func(s *api.Step) *int { return &s.To }))
		add("Node of a span", api.MsgChanges, 0, 0, step(3, func(s *api.Step) *int { return &s.Node }))
	}
	add("Root", api.MsgSnap, 0, 0, func(m *api.Msg) *int { return &m.Tree.Root })
	add("Next", api.MsgSnap, 7, 16777216, func(m *api.Msg) *int { return &m.Tree.Next })
	add("the root's Id", api.MsgSnap, 0, 0, func(m *api.Msg) *int { return &m.Tree.Nodes[0].Id })
	add("the root's Kind", api.MsgSnap, 0, 0, func(m *api.Msg) *int { return &m.Tree.Nodes[0].Kind })
	add("the root's From", api.MsgSnap, 0, 0, func(m *api.Msg) *int { return &m.Tree.Nodes[0].From })
	add("the root's To", api.MsgSnap, 11, 11, func(m *api.Msg) *int { return &m.Tree.Nodes[0].To })
	add("a leaf's Kind", api.MsgSnap, 1, 7, func(m *api.Msg) *int { return &m.Tree.Nodes[6].Kind })
	add("a leaf's From", api.MsgSnap, 0, 2, func(m *api.Msg) *int { return &m.Tree.Nodes[6].From })
	add("a leaf's To", api.MsgSnap, 1, 3, func(m *api.Msg) *int { return &m.Tree.Nodes[6].To })
	add("a child", api.MsgSnap, 6, 6, func(m *api.Msg) *int { return &m.Tree.Nodes[1].Kids[0] })
	return out
}

// Each number at both its ends, just beyond them, and far.
func TestEndsOfNumbers(t *testing.T) {
	for _, f := range fields() {
		turned := func(n int) api.Msg {
			m := full(f.kind)
			*f.at(&m) = n
			return m
		}
		for n := max(f.from, f.to-3); n <= f.to; n++ {
			taken(t, fmt.Sprint(f.name, " ", n), turned(n))
		}
		for n := f.from; n <= min(f.from+3, f.to); n++ {
			taken(t, fmt.Sprint(f.name, " ", n), turned(n))
		}
		for _, n := range append(far(), f.from-1, f.from-2, f.from-1000, f.to+1, f.to+2, f.to+1000, f.to+16777217) {
			refused(t, fmt.Sprint(f.name, " ", n), turned(n))
			if plainPut(turned(n)) != plainPut(full(f.kind)) {
				refusedText(t, fmt.Sprint(f.name, " ", n), plainPut(turned(n)))
			}
		}
	}
}

// Without anything in its lists too.
func TestEndsOfNumbersOfBareMessages(t *testing.T) {
	snap := snap("", must(""))
	for _, row := range []struct {
		base     api.Msg
		from, to int
		at       func(m *api.Msg) *int
	}{
		{poll(0, 0, 0), 0, 2, func(m *api.Msg) *int { return &m.Client }},
		{poll(0, 0, 0), 0, 4096, func(m *api.Msg) *int { return &m.Rev }},
		{poll(0, 0, 0), 0, 4096, func(m *api.Msg) *int { return &m.Seq }},
		{changes(0, 0), 0, 2, func(m *api.Msg) *int { return &m.Client }},
		{changes(0, 0), 0, 4096, func(m *api.Msg) *int { return &m.Rev }},
		{changes(0, 0), 0, 0, func(m *api.Msg) *int { return &m.Seq }},
		{snap, 0, 2, func(m *api.Msg) *int { return &m.Client }},
		{snap, 0, 4096, func(m *api.Msg) *int { return &m.Rev }},
		{snap, 0, 4096, func(m *api.Msg) *int { return &m.Seq }},
		{snap, 0, 4096, func(m *api.Msg) *int { return &m.From }},
		{snap, 0, 4096, func(m *api.Msg) *int { return &m.Last }},
	} {
		m := copyOf(row.base)
		for n := row.from; n <= row.to; n++ {
			*row.at(&m) = n
			taken(t, "within", m)
		}
		for _, n := range append(far(), row.from-1, row.from-2, row.to+1, row.to+2) {
			*row.at(&m) = n
			refused(t, "beyond", m)
			if plainPut(m) != plainPut(row.base) {
				refusedText(t, "beyond", plainPut(m))
			}
		}
	}
}

// The fields that a Kind does not name are zero, whatever would be of another Kind.
func TestFieldsThatAreNotNamed(t *testing.T) {
	turns := map[string]func(m *api.Msg){
		"Refused":        func(m *api.Msg) { m.Refused = true },
		"Text":           func(m *api.Msg) { m.Text = "x" },
		"Text of a 0":    func(m *api.Msg) { m.Text = "\x00" },
		"Edit":           func(m *api.Msg) { m.Edit = edit(keep(1)) },
		"Edit of none":   func(m *api.Msg) { m.Edit = make([]api.Comp, 1) },
		"Entries":        func(m *api.Msg) { m.Entries = []api.Entry{{Seq: 1}} },
		"Entries of 0":   func(m *api.Msg) { m.Entries = make([]api.Entry, 1) },
		"Tree":           func(m *api.Msg) { m.Tree = must("") },
		"Tree of a root": func(m *api.Msg) { m.Tree = api.Tree{Next: 1, Nodes: make([]api.Node, 1)} },
		"Nodes":          func(m *api.Msg) { m.Tree.Nodes = make([]api.Node, 1) },
		"Text and Tree":  func(m *api.Msg) { m.Text, m.Tree = "[1]", must("[1]") },
	}
	for _, n := range append(far(), -1, 1, 2, 4096) {
		turns[fmt.Sprint("From ", n)] = func(m *api.Msg) { m.From = n }
		turns[fmt.Sprint("Last ", n)] = func(m *api.Msg) { m.Last = n }
		turns[fmt.Sprint("Root ", n)] = func(m *api.Msg) { m.Tree.Root = n }
		turns[fmt.Sprint("Next ", n)] = func(m *api.Msg) { m.Tree.Next = n }
		turns[fmt.Sprint("Seq ", n)] = func(m *api.Msg) { m.Seq = n }
	}
	named := map[string][]int{"Edit": {api.MsgPoll}, "Entries": {api.MsgChanges}, "Refused": {api.MsgSnap}, "Text": {api.MsgSnap}, "Tree": {api.MsgSnap}, "Root": {api.MsgSnap}, "Next": {api.MsgSnap}, "Nodes": {api.MsgSnap}, "From": {api.MsgSnap}, "Last": {api.MsgSnap}, "Seq": {api.MsgPoll, api.MsgSnap}}
	asked := 0
	for name, turn := range turns {
		of, _, _ := strings.Cut(name, " ")
		for kind := range 3 {
			bare := api.Msg{Kind: kind}
			if kind == api.MsgSnap {
				bare = snap("", must(""))
			}
			for _, m := range []api.Msg{full(kind), bare} {
				if !slices.Contains(named[of], kind) {
					asked++
					turn(&m)
					refused(t, fmt.Sprint(name, " of Kind ", kind), m)
				}
			}
		}
	}
	if asked < 200 {
		t.Errorf("the test is wrong: %d were asked", asked)
	}
}

func TestKinds(t *testing.T) {
	for _, kind := range append(far(), -1, -2, -3, 3, 4, 5, 255, 256, 257, 258) {
		for of := range 3 {
			m := full(of)
			m.Kind = kind
			refused(t, "a Kind that is none", m)
		}
		refused(t, "a Kind that is none", api.Msg{Kind: kind})
	}
	// One Kind's message as another one's.
	for of := range 3 {
		for kind := range 3 {
			m := full(of)
			if m.Kind = kind; kind != of {
				refused(t, "another Kind", m)
			}
		}
	}
	refusedBoth(t, "a snapshot without a tree", api.Msg{Kind: api.MsgSnap})
}

// Without a number there is no edit: with one there may be one or none.
func TestPollsWithoutANumber(t *testing.T) {
	for _, e := range [][]api.Comp{edit(keep(1)), edit(put("a")), edit(cut(1)), edit(keep(1), put("a"), cut(1)), edit(keep(4096))} {
		refusedBoth(t, "no number", poll(1, 2, 0, e...))
		taken(t, "a number", poll(1, 2, 1, e...))
	}
	taken(t, "no number, no edit", poll(1, 2, 0))
	taken(t, "no number, an empty edit", poll(1, 2, 0, edit()...))
	taken(t, "a number, no edit", poll(1, 2, 1))
}

// wrongEdits are edits that may not be; those ahead have a text that is another edit's, or none's.
func wrongEdits() map[string][]api.Comp {
	return map[string][]api.Comp{
		"a kept length of 0":     edit(keep(0)),
		"a cut length of 0":      edit(keep(1), cut(0)),
		"an empty put":           edit(put("")),
		"a kept length below 0":  edit(keep(-1)),
		"a cut length below 0":   edit(cut(-1)),
		"a long keep":            edit(keep(4097)),
		"a long cut":             edit(cut(4097)),
		"a long put":             edit(put(strings.Repeat("x", 4097))),
		"a long From":            edit(keep(2048), cut(2049)),
		"a long To":              edit(keep(2048), put(strings.Repeat("x", 2049))),
		"two keeps":              edit(keep(1), keep(1)),
		"two puts":               edit(put("a"), put("b")),
		"two cuts":               edit(cut(1), cut(1)),
		"a put behind a cut":     edit(cut(1), put("a")),
		"an empty one behind":    edit(keep(1), put("a"), cut(1), keep(0)),
		"one of no kind":         {{Kind: 3, N: 1}},
		"one of a kind below 0":  {{Kind: -1, N: 1}},
		"a kind far behind":      {{Kind: math.MaxInt, N: 1}},
		"a text of a keep":       {{Kind: api.CompKeep, N: 1, Text: "a"}},
		"a text of a cut":        {{Kind: api.CompCut, N: 1, Text: "a"}},
		"a number of a put":      {{Kind: api.CompPut, N: 1, Text: "a"}},
		"a number below 0":       {{Kind: api.CompPut, N: -1, Text: "a"}},
		"numbers that wrap":      edit(keep(math.MaxInt), cut(math.MaxInt)),
		"more pieces than bytes": slices.Repeat(edit(keep(0)), 4097),
		"far more":               slices.Repeat(edit(keep(1), cut(1)), 100000),
	}
}

func TestEditsThatMayNotBe(t *testing.T) {
	for name, e := range wrongEdits() {
		refused(t, name, poll(1, 2, 3, e...))
		for at := range 3 {
			m := full(api.MsgChanges)
			m.Entries[at].Edit = e
			refused(t, name+", of an entry", m)
		}
		// What a text can't tell is not there when it is taken.
		if s := plainPut(poll(1, 2, 3, e...)); !strings.Contains(name, "a text of") && !strings.Contains(name, "a number") {
			refusedText(t, name, s)
			refusedText(t, name, plainPut(changes(1, 2, api.Entry{Seq: 1, Edit: e})))
		}
	}
}

// wrongSteps are steps that may not be.
func wrongSteps() map[string]api.Step {
	return map[string]api.Step{
		"an id below 0":       drop(-1),
		"an id at MaxIds":     create(api.MaxIds, 1),
		"a kind below 0":      {Kind: -1},
		"a kind behind":       {Kind: 4},
		"a Node below 0":      create(1, -1),
		"a Node behind":       create(1, 8),
		"a child below 0":     kids(1, 2, -1),
		"a child at MaxIds":   kids(1, api.MaxIds, 2),
		"too many children":   kids(1, make([]int, api.MaxNodes+1)...),
		"From below 0":        span(1, -1, 3),
		"From behind To":      span(1, 3, 2),
		"To above MaxLen":     span(1, 2, 4097),
		"Node of a drop":      {Kind: api.StepDrop, Id: 1, Node: 1},
		"To of a drop":        {Kind: api.StepDrop, Id: 1, To: 1},
		"Kids of a drop":      {Kind: api.StepDrop, Id: 1, Kids: []int{0}},
		"a span of a create":  {Kind: api.StepCreate, Id: 1, Node: 1, From: 1, To: 2},
		"Kids of a create":    {Kind: api.StepCreate, Id: 1, Node: 1, Kids: []int{2}},
		"Node of kids":        {Kind: api.StepKids, Id: 1, Node: 1, Kids: []int{2}},
		"a span of kids":      {Kind: api.StepKids, Id: 1, From: 1, To: 2, Kids: []int{2}},
		"Node of a span":      {Kind: api.StepSpan, Id: 1, Node: 1, From: 1, To: 2},
		"Kids of a span":      {Kind: api.StepSpan, Id: 1, From: 1, To: 2, Kids: []int{2}},
		"all fields far away": {Kind: math.MinInt, Id: math.MaxInt, Node: math.MinInt, From: math.MaxInt, To: math.MinInt, Kids: []int{math.MaxInt}},
	}
}

func TestStepsThatMayNotBe(t *testing.T) {
	for name, s := range wrongSteps() {
		refusedBoth(t, name+", alone", changes(1, 2, api.Entry{Seq: 1, Delta: steps(s)}))
		for of := range 3 {
			for at := range 5 {
				m := full(api.MsgChanges)
				m.Entries[of].Delta = slices.Insert(m.Entries[of].Delta, at, s)
				refusedBoth(t, name, m)
			}
		}
	}
}

// wrongEntries are entries that may not be.
func wrongEntries() map[string]api.Entry {
	return map[string]api.Entry{
		"of nothing":      {},
		"no Seq":          {Client: 1, Edit: edit(keep(1))},
		"a Seq below 0":   {Seq: -1},
		"a Seq above":     {Seq: api.MaxRev + 1},
		"a Client below":  {Seq: 1, Client: -1},
		"a Client above":  {Seq: 1, Client: api.MaxClients},
		"an edit of none": {Seq: 1, Edit: edit(keep(0))},
		"a wrong step":    {Seq: 1, Delta: steps(drop(1), drop(-1))},
	}
}

func TestEntriesThatMayNotBe(t *testing.T) {
	right := api.Entry{Client: 1, Seq: 2, Edit: edit(put("x")), Delta: steps(drop(3))}
	for name, wrong := range wrongEntries() {
		for count := 1; count <= api.MaxBatch; count++ {
			for at := range count {
				all := slices.Repeat([]api.Entry{right}, count)
				taken(t, "right ones", changes(1, 2, all...))
				all[at] = wrong
				refusedBoth(t, fmt.Sprint(name, ", ", at, " of ", count), changes(1, 2, all...))
			}
		}
	}
}

func TestUpToMaxBatch(t *testing.T) {
	for _, e := range []api.Entry{{Seq: 1}, {Client: 2, Seq: 4096, Edit: edit(put("x,")), Delta: steps(span(1, 2, 3))}} {
		for n := range api.MaxBatch + 1 {
			taken(t, fmt.Sprint(n), changes(1, 2, slices.Repeat([]api.Entry{e}, n)...))
		}
		for _, n := range []int{4, 5, 6, 7, 8, 1000, 100000} {
			refused(t, fmt.Sprint(n), changes(1, 2, slices.Repeat([]api.Entry{e}, n)...))
		}
		for _, n := range []int{4, 5, 6, 7, 8, 1000} {
			refusedText(t, fmt.Sprint(n), plainPut(changes(1, 2, slices.Repeat([]api.Entry{e}, n)...)))
		}
	}
	// Entries are not held against each other, nor against the message.
	e := api.Entry{Client: 2, Seq: 9}
	taken(t, "one twice", changes(0, 0, e, e))
	taken(t, "numbers that fall", changes(0, 0, e, api.Entry{Client: 2, Seq: 8}))
}

func TestUpToMostSteps(t *testing.T) {
	const most = 4 * api.MaxNodes
	for _, s := range []api.Step{drop(0), create(16777215, 7), kids(1), span(9, 4096, 4096)} {
		e := api.Entry{Seq: 1, Delta: slices.Repeat(steps(s), most)}
		taken(t, "most steps", changes(1, 2, e))
		taken(t, "most steps, and more entries", changes(1, 2, api.Entry{Seq: 1}, e, api.Entry{Seq: 2}))
		for _, more := range []int{1, 2, most} {
			e.Delta = slices.Repeat(steps(s), most+more)
			refusedBoth(t, "too many steps", changes(1, 2, e))
			refusedBoth(t, "too many steps, last", changes(1, 2, api.Entry{Seq: 1}, api.Entry{Seq: 2}, e))
		}
	}
	e := api.Entry{Seq: 1, Delta: slices.Repeat(steps(drop(0)), most)}
	e.Delta[most-1] = drop(-1)
	refusedBoth(t, "the last one is wrong", changes(1, 2, e))
	e.Delta[most-1] = kids(1, make([]int, api.MaxNodes)...)
	taken(t, "the last one has most children", changes(1, 2, e))
}

// wide is a tree of n nodes: a root and its children.
func wide(n, size int) api.Tree {
	t := api.Tree{Next: n, Nodes: []api.Node{{To: size}}}
	for id := 1; id < n; id++ {
		t.Nodes[0].Kids = append(t.Nodes[0].Kids, id)
		t.Nodes = append(t.Nodes, api.Node{Id: id, Kind: api.NodeError, From: min(id-1, size), To: min(id, size)})
	}
	return t
}

// A text of MaxDoc bytes and one more; its tree, and others.
func TestUpToMaxDoc(t *testing.T) {
	for _, c := range []string{" ", "[", "0,", "\x00", ",:", "\xff", "é"} {
		long := strings.Repeat(c, 400)
		for _, n := range []int{0, 1, api.MaxDoc - 1, api.MaxDoc} {
			taken(t, "its tree", snap(long[:n], must(long[:n])))
			taken(t, "another tree of its length", snap(long[:n], wide(3, n)))
		}
		for _, n := range []int{api.MaxDoc + 1, api.MaxDoc + 2, 400} {
			refusedBoth(t, "one of its length", snap(long[:n], wide(3, n)))
			refusedBoth(t, "a shorter one", snap(long[:n], must(long[:api.MaxDoc])))
		}
	}
	for _, n := range []int{api.MaxLen, api.MaxLen + 1, api.MaxFrame, 3 * api.MaxFrame} {
		refused(t, "far too long", snap(strings.Repeat("x", n), wide(3, n)))
	}
}

func TestTreesOfAnotherLength(t *testing.T) {
	for _, s := range []string{"", "1", "[1]", `{"a":[1,2]}`, strings.Repeat("0", api.MaxDoc-1)} {
		taken(t, "its own", snap(s, must(s)))
		refusedBoth(t, "a longer text", snap(s+" ", must(s)))
		refusedBoth(t, "a longer tree", snap(s, must(s+" ")))
		refusedBoth(t, "a far longer tree", snap(s, wide(2, api.MaxLen)))
		if s != "" {
			refusedBoth(t, "a shorter text", snap(s[1:], must(s)))
			refusedBoth(t, "no text", snap("", must(s)))
			refusedBoth(t, "the tree of none", snap(s, must("")))
		}
	}
}

// wrongTrees are ways to turn the tree of a full snapshot so that it may not be.
func wrongTrees() map[string]func(x *api.Tree) {
	return map[string]func(x *api.Tree){
		"none":                func(x *api.Tree) { *x = api.Tree{} },
		"no nodes":            func(x *api.Tree) { x.Nodes = nil },
		"no root":             func(x *api.Tree) { x.Root = 9 },
		"another root":        func(x *api.Tree) { x.Root = 1 },
		"Next":                func(x *api.Tree) { x.Next = 6 },
		"ids that fall":       func(x *api.Tree) { x.Nodes[4], x.Nodes[5] = x.Nodes[5], x.Nodes[4] },
		"an id twice":         func(x *api.Tree) { x.Nodes = append(x.Nodes, x.Nodes[6]) },
		"nobody's child":      func(x *api.Tree) { x.Nodes[1].Kids = []int{2} },
		"a child that's none": func(x *api.Tree) { x.Nodes[6].Kind = api.NodeError; x.Nodes[6].Kids = []int{7} },
		"a number's child": func(x *api.Tree) {
			x.Nodes[1].Kids = []int{2}
			x.Nodes[5].Kids = []int{6}
			x.Nodes[6].From = 8
			x.Nodes[6].To = 9
		},
		"the child of two":   func(x *api.Tree) { x.Nodes[3].Kids = []int{4, 5, 5} },
		"a ring":             func(x *api.Tree) { x.Nodes[0].Kids = nil; x.Nodes[3].Kids = []int{4, 5, 1} },
		"a span beyond":      func(x *api.Tree) { x.Nodes[5].To = 11 },
		"a turned row":       func(x *api.Tree) { x.Nodes[1].Kids = []int{2, 6} },
		"a kind":             func(x *api.Tree) { x.Nodes[6].Kind = 8 },
		"a second root":      func(x *api.Tree) { x.Nodes[6].Kind = api.NodeRoot },
		"too many nodes":     func(x *api.Tree) { *x = wide(api.MaxNodes+1, 11) },
		"far too many nodes": func(x *api.Tree) { *x = wide(10*api.MaxNodes, 11) },
		"a long row of one":  func(x *api.Tree) { x.Nodes[1].Kids = slices.Repeat([]int{6}, 100000) },
	}
}

func TestTreesThatMayNotBe(t *testing.T) {
	for name, turn := range wrongTrees() {
		m := full(api.MsgSnap)
		turn(&m.Tree)
		refusedBoth(t, name, m)
	}
	m := full(api.MsgSnap)
	m.Tree = wide(api.MaxNodes, 11)
	taken(t, "most nodes", m)
	m.Tree.Next = api.MaxIds
	taken(t, "most nodes, and ids", m)
	m.Tree.Next = api.MaxIds + 1
	refusedBoth(t, "one id more", m)
}

// What May says of any message is what the words say: all fields at some of their numbers.
func TestMayOfManyMessages(t *testing.T) {
	yes, no := 0, 0
	ask := func(m api.Msg) {
		want := plainMay(m)
		if got := pack.May(m); got != want {
			t.Fatalf("P17.1: %s: %v", brief(m), got)
		}
		if s, e := pack.Put(m); want != (e == api.OK) || want != (s != "") || !want && e != api.ErrPackForm {
			t.Fatalf("P17.2: %s: %s, %d", brief(m), brief(s), e)
		}
		if want {
			yes++
		} else {
			no++
		}
	}
	trees := []api.Tree{{}, must(""), must("1")}
	for i := range 4 * 3 * 3 * 4 * 3 * 3 * 2 * 3 * 3 * 2 * 3 {
		next := func(n int) int {
			k := i % n
			i /= n
			return k
		}
		m := api.Msg{Kind: next(4), Client: 3 * next(3) / 2, Rev: 4097 * next(3) / 2, Seq: []int{0, 1, 4096, 4097}[next(4)], From: 4097 * next(3) / 2, Last: 4097 * next(3) / 2, Refused: next(2) > 0}
		m.Edit = [][]api.Comp{nil, edit(keep(1)), edit(keep(0))}[next(3)]
		m.Entries = [][]api.Entry{nil, {{Seq: 1}}, {{}}}[next(3)]
		m.Text = []string{"", "1"}[next(2)]
		m.Tree = trees[next(3)]
		ask(m)
	}
	if yes < 100 || no < 10000 {
		t.Errorf("the test is wrong: %d may be, %d may not", yes, no)
	}
}
