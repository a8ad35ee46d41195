package frame_test

import (
	"fmt"
	"math/rand"
	"slices"
	"strings"
	"testing"

	"minuet/api"
	"minuet/frame"
	"minuet/pack"
	"minuet/parse"
	"minuet/renew"
)

// P18.1: frames written out, and what has none.

// brief is what a test shows of what may be long.
func brief(x any) string {
	s := fmt.Sprintf("%+q", fmt.Sprint(x))
	if len(s) > 600 {
		s = s[:600] + " .."
	}
	return s
}

// must is layer 11's tree of a text.
func must(s string) api.Tree {
	t, e := parse.Parse(s)
	if e != api.OK {
		panic("no tree of " + s)
	}
	return t
}

// renewed is a text's tree with the ids of one of another text.
func renewed(s, u string) api.Tree {
	t, e := renew.Renew(must(s), s, u)
	if e != api.OK {
		panic("no tree of " + s + " and " + u)
	}
	return t
}

// keep, put and cut are pieces.
func keep(n int) api.Comp            { return api.Comp{Kind: api.CompKeep, N: n} }
func put(s string) api.Comp          { return api.Comp{Kind: api.CompPut, Text: s} }
func cut(n int) api.Comp             { return api.Comp{Kind: api.CompCut, N: n} }
func edit(cs ...api.Comp) []api.Comp { return cs }

// drop, kids and span are steps.
func drop(id int) api.Step { return api.Step{Kind: api.StepDrop, Id: id} }
func kids(id int, ks ...int) api.Step {
	return api.Step{Kind: api.StepKids, Id: id, Kids: ks}
}
func span(id, from, to int) api.Step {
	return api.Step{Kind: api.StepSpan, Id: id, From: from, To: to}
}
func steps(ss ...api.Step) []api.Step { return ss }

// poll, changes and snap are messages.
func poll(client, rev, seq int, cs ...api.Comp) api.Msg {
	return api.Msg{Kind: api.MsgPoll, Client: client, Rev: rev, Seq: seq, Edit: cs}
}
func changes(client, rev int, es ...api.Entry) api.Msg {
	return api.Msg{Kind: api.MsgChanges, Client: client, Rev: rev, Entries: es}
}
func snap(text string, tree api.Tree) api.Msg {
	return api.Msg{Kind: api.MsgSnap, Text: text, Tree: tree}
}

// same: are two messages the same, an empty list and none being one?
func same(a, b api.Msg) bool {
	return a.Kind == b.Kind && a.Client == b.Client && a.Rev == b.Rev && a.Seq == b.Seq && a.From == b.From && a.Last == b.Last &&
		a.Refused == b.Refused && a.Text == b.Text && slices.Equal(a.Edit, b.Edit) &&
		slices.EqualFunc(a.Entries, b.Entries, sameEntry) &&
		a.Tree.Root == b.Tree.Root && a.Tree.Next == b.Tree.Next && slices.EqualFunc(a.Tree.Nodes, b.Tree.Nodes, sameNode)
}

func sameEntry(a, b api.Entry) bool {
	return a.Client == b.Client && a.Seq == b.Seq && slices.Equal(a.Edit, b.Edit) && slices.EqualFunc(a.Delta, b.Delta, sameStep)
}

func sameStep(a, b api.Step) bool {
	return a.Kind == b.Kind && a.Id == b.Id && a.Node == b.Node && a.From == b.From && a.To == b.To && slices.Equal(a.Kids, b.Kids)
}

func sameNode(a, b api.Node) bool {
	return a.Id == b.Id && a.Kind == b.Kind && a.From == b.From && a.To == b.To && slices.Equal(a.Kids, b.Kids)
}

// nothing: is a message the zero one?
func nothing(m api.Msg) bool {
	return same(m, api.Msg{})
}

// plainSum is layer 16's sum, counted another way: from behind, each byte is in as many rests of the text as its place and 1.
func plainSum(s string) int {
	all, rest := 0, 0
	for i := len(s) - 1; i >= 0; i-- {
		rest = (rest + int(s[i])) % 1000003
		all = (all + rest) % 1000003
	}
	return all
}

// wrapped is a text in its two numbers, be it a message's or not.
func wrapped(text string) string {
	return fmt.Sprintf("%d:%d:%s", len(text), plainSum(text), text)
}

// plainGet is the message that has a frame, if there is one: some end of the frame is that message's text.
func plainGet(s string) (api.Msg, bool) {
	for k := range len(s) {
		if m, e := pack.Get(s[k:]); e == api.OK && wrapped(s[k:]) == s {
			return m, true
		}
	}
	return api.Msg{}, false
}

// taken: is a message put as the chapter says, and taken again? The frame is told.
func taken(t *testing.T, name string, m api.Msg) string {
	t.Helper()
	text, e := pack.Put(m)
	if e != api.OK {
		t.Fatalf("the test is wrong: %s: %s has no text", name, brief(m))
	}
	s, e := frame.Put(m)
	if want := wrapped(text); s != want || e != api.OK {
		t.Fatalf("P18.1: %s: %s, %d, want %s", name, brief(s), e, brief(want))
	}
	if got, e := frame.Get(s); !same(got, m) || e != api.OK {
		t.Fatalf("P18.1: %s: %s, %d, want %s", name, brief(got), e, brief(m))
	}
	return s
}

// refused: has a message no frame?
func refused(t *testing.T, name string, m api.Msg) {
	t.Helper()
	if s, e := frame.Put(m); s != "" || e != api.ErrFrameForm {
		t.Errorf("P18.1: %s: %s: %s, %d", name, brief(m), brief(s), e)
	}
}

// none: is a text no frame?
func none(t *testing.T, name, s string) {
	t.Helper()
	if m, e := frame.Get(s); !nothing(m) || e != api.ErrFrameForm {
		t.Errorf("P18.1: %s: %s: %s, %d", name, brief(s), brief(m), e)
	}
}

// asked: is a text taken just as the words say? Is it some message's frame?
func asked(t *testing.T, s string) bool {
	t.Helper()
	want, found := plainGet(s)
	got, e := frame.Get(s)
	if !same(got, want) || found != (e == api.OK) || !found && e != api.ErrFrameForm {
		t.Fatalf("P18.1: %s: %s, %d, want %s, %v", brief(s), brief(got), e, brief(want), found)
	}
	if !found {
		return false
	}
	if again, e := frame.Put(got); again != s || e != api.OK {
		t.Fatalf("P18.1: %s: put again it is %s, %d", brief(s), brief(again), e)
	}
	return true
}

// written is a message and its frame.
type written struct {
	msg   api.Msg
	frame string
}

// rows are messages of each Kind with their frames, written out by hand.
func rows() []written {
	full := api.Msg{Kind: api.MsgSnap, Client: 2, Rev: 9, Seq: 3, From: 4, Last: 2, Refused: true, Text: "[1]", Tree: must("[1]")}
	open := full
	open.Refused = false
	return []written{
		{api.Msg{}, "9:2096:P0,0,0,0,"},
		{poll(2, 4096, 0), "12:3760:P2,4096,0,0,"},
		{poll(1, 0, 1), "9:2104:P1,0,1,0,"},
		{poll(0, 10, 4096, keep(1)), "16:7390:P0,10,4096,1,k1,"},
		{poll(0, 3, 4, cut(4096)), "15:6435:P0,3,4,1,c4096,"},
		{poll(0, 3, 4, put("a")), "13:5756:P0,3,4,1,p1:a"},
		{poll(2, 3, 4, put("ab"), cut(7), keep(12), cut(1), keep(3), put("0123456789")), "41:51667:P2,3,4,6,p2:abc7,k12,c1,k3,p10:0123456789"},
		{poll(0, 1, 2, put("::"), keep(1), put("\x00\xff\n:")), "24:20601:P0,1,2,3,p2:::k1,p4:\x00\xff\n:"},
		{poll(1, 3, 4, put("9:2096:P0,0,0,0,")), "29:22755:P1,3,4,1,p16:9:2096:P0,0,0,0,"},
		{changes(0, 0), "7:1303:C0,0,0,"},
		{changes(2, 4096), "10:2691:C2,4096,0,"},
		{changes(1, 7, api.Entry{Seq: 1}), "15:5573:C1,7,1,0,1,0,0,"},
		{changes(1, 7, api.Entry{Client: 2, Seq: 4096}, api.Entry{Client: 1, Seq: 12}, api.Entry{Seq: 3}), "35:29543:C1,7,3,2,4096,0,0,1,12,0,0,0,3,0,0,"},
		{changes(2, 1, api.Entry{Client: 1, Seq: 3, Edit: edit(put("0,"), cut(1)), Delta: steps(kids(1, 2, 3))}, api.Entry{Seq: 9, Edit: edit(cut(2)), Delta: steps(span(4, 5, 6), drop(7))}),
			"74:134749:C2,1,2,1,3,2,p2:0,c1,1,2,1,0,0,0,2,2,3,0,9,1,c2,2,3,4,0,5,6,0,0,7,0,0,0,0,"},
		{full, "58:81872:S2,9,3,4,2,1,3:[1]0,3,3,0,0,0,3,1,1,1,2,0,3,1,2,2,5,1,2,0,"},
		{open, "58:81860:S2,9,3,4,2,0,3:[1]0,3,3,0,0,0,3,1,1,1,2,0,3,1,2,2,5,1,2,0,"},
		{snap("", must("")), "43:44145:S0,0,0,0,0,0,0:0,2,2,0,0,0,0,1,1,1,7,0,0,0,"},
		{snap("", api.Tree{Next: 1, Nodes: []api.Node{{}}}), "31:23071:S0,0,0,0,0,0,0:0,1,1,0,0,0,0,0,"},
		{snap("7,8:", api.Tree{Root: 5, Next: 16777216, Nodes: []api.Node{{Id: 5, To: 4}}}), "42:44072:S0,0,0,0,0,0,4:7,8:5,16777216,1,5,0,0,4,0,"},
		{api.Msg{Kind: api.MsgSnap, Client: 1, Rev: 4096, Seq: 4096, From: 4096, Last: 4096, Refused: true, Text: `[1,{"a":1}]`, Tree: renewed(`[{"a":1}]`, `[1,{"a":1}]`)},
			`130:416260:S1,4096,4096,4096,4096,1,11:[1,{"a":1}]0,7,7,0,0,0,11,1,1,1,2,0,11,2,6,2,2,1,3,10,1,3,3,3,4,9,2,4,5,4,4,4,7,0,5,5,8,9,0,6,5,1,2,0,`},
		{poll(0, 0, 1, put(strings.Repeat("\xff", 4096))), "4111:284760:P0,0,1,1,p4096:" + strings.Repeat("\xff", 4096)},
	}
}

// short are the rows whose frames are not long.
func short() []written {
	return slices.DeleteFunc(rows(), func(row written) bool { return len(row.frame) > 200 })
}

func TestFramesWrittenOut(t *testing.T) {
	for i, row := range rows() {
		if s, e := frame.Put(row.msg); s != row.frame || e != api.OK {
			t.Errorf("P18.1: row %d: %s, %d, want %s", i, brief(s), e, brief(row.frame))
		}
		if m, e := frame.Get(row.frame); !same(m, row.msg) || e != api.OK {
			t.Errorf("P18.1: row %d: %s, %d, want %s", i, brief(m), e, brief(row.msg))
		}
		if m, found := plainGet(row.frame); !found || !same(m, row.msg) {
			t.Errorf("the test is wrong: row %d: %s", i, brief(m))
		}
	}
}

// Empty lists and none are one.
func TestEmptyLists(t *testing.T) {
	for i, row := range rows() {
		m := row.msg
		if len(m.Edit) == 0 {
			m.Edit = []api.Comp{}
		}
		if len(m.Entries) == 0 {
			m.Entries = []api.Entry{}
		}
		if len(m.Tree.Nodes) == 0 {
			m.Tree.Nodes = []api.Node{}
		}
		if s, e := frame.Put(m); s != row.frame || e != api.OK {
			t.Errorf("P18.1: row %d: %s, %d, want %s", i, brief(s), e, brief(row.frame))
		}
	}
}

// summing is a poll whose text has a sum: some of its last bytes are taken by chance, and the last one, if there is such.
func summing(t *testing.T, want int) api.Msg {
	t.Helper()
	r := rand.New(rand.NewSource(int64(want)))
	ahead := "P0,0,1,1,p1000:"
	last := len(ahead) + 1000
	for range 1000000 {
		lack, b := want-plainSum(ahead), make([]byte, 1000)
		for k := 1; k < 10; k++ {
			b[999-k] = byte(r.Intn(256))
			lack -= (last - k) * int(b[999-k])
		}
		if lack = (lack%api.SumPrime + api.SumPrime) % api.SumPrime; lack%last == 0 && lack/last < 256 {
			b[999] = byte(lack / last)
			return poll(0, 0, 1, put(string(b)))
		}
	}
	t.Fatalf("the test is wrong: no text's sum is %d", want)
	return api.Msg{}
}

// The ends of sums, and of how many digits they have.
func TestSumsOfFewAndManyDigits(t *testing.T) {
	for _, want := range []int{0, 1, 9, 10, 99, 100, 999, 1000, 9999, 10000, 65535, 65536, 99999, 100000, 999999, 1000000, 1000001, 1000002} {
		m := summing(t, want)
		s := taken(t, "a sum", m)
		ahead := fmt.Sprintf("1015:%d:P", want)
		if !strings.HasPrefix(s, ahead) {
			t.Fatalf("P18.1: %s, want %s ..", brief(s), ahead)
		}
		rest := strings.TrimPrefix(s, ahead)
		for _, n := range []string{fmt.Sprint(want + api.SumPrime), fmt.Sprint(want - api.SumPrime), fmt.Sprint(want + 1<<32), fmt.Sprint(want + 2*api.SumPrime), "0" + fmt.Sprint(want), ""} {
			none(t, "another sum", "1015:"+n+":P"+rest)
		}
	}
}

// Lengths around those that have one digit more.
func TestLengthsOfFewAndManyDigits(t *testing.T) {
	filled := func(n int) api.Msg { return poll(0, 0, 1, put(strings.Repeat("x", n))) }
	for _, row := range []struct {
		n   int
		msg api.Msg
	}{
		{7, changes(0, 0)}, {8, changes(0, 10)}, {9, poll(0, 0, 0)}, {10, poll(0, 10, 0)}, {11, poll(0, 100, 0)},
		{99, filled(86)}, {100, filled(87)}, {101, filled(88)}, {999, filled(985)}, {1000, filled(986)}, {1001, filled(987)},
	} {
		if s := taken(t, "a length", row.msg); !strings.HasPrefix(s, fmt.Sprint(row.n, ":")) {
			t.Errorf("P18.1: %s, want %d: ..", brief(s), row.n)
		}
	}
}

// wide is a tree of a root alone, of a text of a length.
func wide(size int) api.Tree {
	return api.Tree{Next: 1, Nodes: []api.Node{{To: size}}}
}

// wrong are messages that layer 17 refuses.
func wrong() map[string]api.Msg {
	all := map[string]api.Msg{
		"a Kind above":              {Kind: 3},
		"a Kind far above":          {Kind: 1 << 40},
		"a Kind below 0":            {Kind: -1},
		"a Client above":            poll(3, 0, 0),
		"a Client below 0":          poll(-1, 0, 0),
		"a Rev above":               poll(0, 4097, 0),
		"a Rev below 0":             changes(0, -1),
		"a Seq above":               poll(0, 0, 4097),
		"a Seq below 0":             poll(0, 0, -1),
		"an edit without a number":  poll(0, 0, 0, keep(1)),
		"a piece of none":           poll(0, 0, 1, keep(0)),
		"two alike":                 poll(0, 0, 1, keep(1), keep(1)),
		"a put behind a cut":        poll(0, 0, 1, cut(1), put("a")),
		"a piece of no Kind":        poll(0, 0, 1, api.Comp{Kind: 3, N: 1}),
		"four entries":              changes(0, 0, api.Entry{Seq: 1}, api.Entry{Seq: 2}, api.Entry{Seq: 3}, api.Entry{Seq: 4}),
		"an entry without a number": changes(0, 0, api.Entry{Seq: 1}, api.Entry{}),
		"an entry of nobody":        changes(0, 0, api.Entry{Client: 3, Seq: 1}),
		"an entry's edit":           changes(0, 0, api.Entry{Seq: 1, Edit: edit(put(""))}),
		"an entry's step":           changes(0, 0, api.Entry{Seq: 1, Delta: steps(drop(1), api.Step{Kind: 4, Id: 2})}),
		"an entry's id":             changes(0, 0, api.Entry{Seq: 1, Delta: steps(drop(16777216))}),
		"changes with a Seq":        {Kind: api.MsgChanges, Seq: 1},
		"a snapshot without a tree": {Kind: api.MsgSnap},
		"another text's tree":       snap("[1]", must("[12]")),
		"a text that is too long":   snap(strings.Repeat("x", api.MaxDoc+1), wide(api.MaxDoc+1)),
		"a poll's Text":             {Text: "x"},
		"a poll's From":             {From: 1},
		"a poll's Refused":          {Refused: true},
		"a poll's Entries":          {Entries: []api.Entry{{Seq: 1}}},
		"a poll's Tree":             {Tree: wide(0)},
		"changes' Edit":             {Kind: api.MsgChanges, Edit: edit(keep(1))},
	}
	late := snap("[1]", must("[1]"))
	late.Last = 4097
	all["a Last above"] = late
	return all
}

func TestMessagesWithoutFrames(t *testing.T) {
	for name, m := range wrong() {
		refused(t, name, m)
	}
	taken(t, "the longest text", snap(strings.Repeat("x", api.MaxDoc), wide(api.MaxDoc)))
}
