package pack_test

import (
	"math"
	"runtime"
	"slices"
	"strings"
	"testing"

	"minuet/api"
	"minuet/pack"
)

// P17.2 at the longest texts that may be, and one byte more.

// long is changes whose text has n bytes: steps with as many children as may be, and greater ids where bytes lack.
func long(t *testing.T, n int) api.Msg {
	t.Helper()
	m := changes(1, 2, api.Entry{Seq: 1, Edit: edit(put("x,"))}, api.Entry{Seq: 2}, api.Entry{Client: 2, Seq: 3})
	lacks := n - len(plainPut(m)) - 2 // how many steps is told in more digits then
	size := len("2,0,0,0,0,2048,") + 2*api.MaxNodes
	for lacks > 2*size {
		m.Entries[1].Delta = append(m.Entries[1].Delta, kids(0, make([]int, api.MaxNodes)...))
		lacks -= size
	}
	lacks = n - len(plainPut(m))
	for i := range m.Entries[1].Delta {
		for k := range m.Entries[1].Delta[i].Kids {
			if more := min(lacks, 7); more > 0 {
				m.Entries[1].Delta[i].Kids[k] = int(math.Pow10(more))
				lacks -= more
			}
		}
	}
	if len(plainPut(m)) != n || len(m.Entries[1].Delta) < 100 {
		t.Fatalf("the test is wrong: %d bytes, %d steps", len(plainPut(m)), len(m.Entries[1].Delta))
	}
	return m
}

func TestUpToMaxFrame(t *testing.T) {
	for _, n := range []int{api.MaxFrame - 2, api.MaxFrame - 1, api.MaxFrame} {
		if s := taken(t, "not too long", long(t, n)); len(s) != n {
			t.Errorf("P17.2: %d bytes, want %d", len(s), n)
		}
	}
	for _, n := range []int{api.MaxFrame + 1, api.MaxFrame + 2, api.MaxFrame + 64, 2 * api.MaxFrame} {
		m := long(t, n)
		if s, e := pack.Put(m); !pack.May(m) || s != "" || e != api.ErrPackForm {
			t.Errorf("P17.2: %d bytes: %d, %d", n, len(s), e)
		}
		refusedText(t, "too long", plainPut(m))
	}
}

// What comes last may be what is too much, in each list: a child, a step, a piece, an entry, a text.
func TestWhatIsTooMuchAtTheEnd(t *testing.T) {
	for _, end := range []api.Entry{
		{Client: 2, Seq: 3, Edit: edit(put(strings.Repeat("y", 4096)))},
		{Client: 2, Seq: 3, Edit: slices.Repeat(edit(keep(1), cut(1)), 500)},
		{Client: 2, Seq: 3, Delta: slices.Repeat(steps(drop(77)), 300)},
		{Client: 2, Seq: 3, Delta: steps(kids(5, make([]int, api.MaxNodes)...))},
		{Client: 2, Seq: 4096},
	} {
		for _, over := range []int{0, 1, 2} {
			bare := long(t, api.MaxFrame-5000)
			bare.Entries[2] = end
			m := long(t, 2*api.MaxFrame-5000-len(plainPut(bare))+over)
			m.Entries[2] = end
			n := len(plainPut(m))
			if n != api.MaxFrame+over {
				t.Fatalf("the test is wrong: %d bytes", n)
			}
			if over == 0 {
				taken(t, "not too long", m)
				continue
			}
			if s, e := pack.Put(m); !pack.May(m) || s != "" || e != api.ErrPackForm {
				t.Errorf("P17.2: %d bytes: %d, %d", n, len(s), e)
			}
			refusedText(t, "too long", plainPut(m))
		}
	}
}

// The longest polls and snapshots are far from too long.
func TestLongestOfOtherKinds(t *testing.T) {
	halves := slices.Repeat(edit(put("x"), keep(1)), 2048)
	taken(t, "most pieces", poll(2, 4096, 4096, halves...))
	taken(t, "the longest piece", poll(2, 4096, 4096, put(strings.Repeat(",", 4096)), cut(4096)))
	m := full(api.MsgSnap)
	m.Text = strings.Repeat("0", api.MaxDoc)
	m.Tree = wide(api.MaxNodes, api.MaxDoc)
	for i := range m.Tree.Nodes[1:] {
		m.Tree.Nodes[1+i].Id += api.MaxIds - api.MaxNodes
		m.Tree.Nodes[0].Kids[i] += api.MaxIds - api.MaxNodes
	}
	m.Tree.Next = api.MaxIds
	taken(t, "most nodes, the last ids", m)
}

// The most that may be at all: Put and May end, with no memory beyond some frames, though a text of it would be long.
func TestTheMostThatMayBe(t *testing.T) {
	most := make([]int, api.MaxNodes)
	e := api.Entry{Seq: 1, Delta: slices.Repeat(steps(kids(api.MaxIds-1, most...)), 4*api.MaxNodes)}
	for i := range most {
		most[i] = api.MaxIds - 1
	}
	m := changes(2, 4096, e, e, e)
	used := memory(func() {
		if s, f := pack.Put(m); !pack.May(m) || s != "" || f != api.ErrPackForm {
			t.Errorf("P17.2: %d bytes, %d", len(s), f)
		}
	})
	if used > 10*api.MaxFrame {
		t.Errorf("P17.2: %d bytes were taken", used)
	}
}

// memory tells how many bytes a call takes.
func memory(call func()) uint64 {
	var ahead, behind runtime.MemStats
	runtime.ReadMemStats(&ahead)
	call()
	runtime.ReadMemStats(&behind)
	return behind.TotalAlloc - ahead.TotalAlloc
}

// Texts that say far more than they have take no more memory than the text.
func TestTextsThatSayFarMore(t *testing.T) {
	for _, s := range []string{"P0,0,1,16777216,k1,", "P0,0,1,1,p16777216:x", "C0,0,16777216,0,1,0,0,", "C0,0,3,0,1,0,16777216,0,0,0,0,0,0,", "C0,0,1,0,1,0,1,2,0,0,0,0,16777216,0,", "C0,0,1,0,1,16777216,k1,", "S0,0,0,0,0,0,16777216:x", "S0,0,0,0,0,0,0:0,1,16777216,0,0,0,0,0,", "S0,0,0,0,0,0,0:0,1,1,0,0,0,0,16777216,0,", "P0,0,0,99999999999999999999,"} {
		if used := memory(func() { refusedText(t, "far more", s) }); used > 10000 {
			t.Errorf("P17.2: %s: %d bytes were taken", s, used)
		}
	}
	// As many as the longest text has.
	for _, row := range [][3]string{
		{"P0,0,1,300000,", "k1,", ""}, {"P0,0,1,100000,", "p1:x", "k1,"}, {"C0,0,100000,", "0,1,0,0,", ""}, {"C0,0,1,0,1,0,80000,", "0,0,0,0,0,0,", ""}, {"C0,0,1,0,1,0,1,2,0,0,0,0,400000,", "0,", ""}, {"S0,0,0,0,0,0,0:0,1,90000,", "0,0,0,0,0,", ""}, {"S0,0,0,0,0,0,0:0,1,1,0,0,0,0,400000,", "0,", ""},
	} {
		s := row[0] + strings.Repeat(row[1]+row[2], (api.MaxFrame-len(row[0]))/len(row[1]+row[2]))
		if used := memory(func() { refusedText(t, "many", s) }); used > 120*api.MaxFrame {
			t.Errorf("P17.2: %s: %d bytes were taken", s[:40], used)
		}
		refusedText(t, "too long", s+strings.Repeat(row[1]+row[2], 10))
	}
	for _, n := range []int{api.MaxFrame, api.MaxFrame + 1, 5 * api.MaxFrame} {
		for _, c := range []string{"0", "1", "9", "P", ",", ":", "P0,0,0,0,", "C0,0,0,"} {
			refusedText(t, "many of one", strings.Repeat(c, n/len(c)))
			refusedText(t, "a long number", "P0,"+strings.Repeat(c, n/len(c)))
			refusedText(t, "a long length", "S0,0,0,0,0,0,"+strings.Repeat(c, n/len(c)))
		}
	}
}
