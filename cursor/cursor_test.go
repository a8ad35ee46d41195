package cursor_test

import (
	"fmt"
	"math"
	"slices"
	"sync"
	"sync/atomic"
	"testing"

	"minuet/api"
	"minuet/comp"
	"minuet/cursor"
	"minuet/transform"
)

func keep(n int) api.Comp { return api.Comp{Kind: api.CompKeep, N: n} }

func cut(n int) api.Comp { return api.Comp{Kind: api.CompCut, N: n} }

func put(s string) api.Comp { return api.Comp{Kind: api.CompPut, Text: s} }

// edit is a list of pieces.
func edit(cs ...api.Comp) []api.Comp { return cs }

// times is pieces, again and again, n pieces in all.
func times(n int, cs ...api.Comp) []api.Comp {
	all := make([]api.Comp, n)
	for i := range all {
		all[i] = cs[i%len(cs)]
	}
	return all
}

// full is a text of n bytes.
func full(n int) string {
	b := make([]byte, n)
	for i := range b {
		b[i] = 'a' + byte(i*7%26)
	}
	return string(b)
}

// sums are From and To by the document's words.
func sums(cs []api.Comp) (int, int) {
	from, to := 0, 0
	for _, c := range cs {
		if c.Kind != api.CompPut {
			from += c.N
		}
		if c.Kind == api.CompKeep {
			to += c.N
		}
		to += len(c.Text)
	}
	return from, to
}

// moves are where each place stands, from 0 to From: without behind, and with it.
type moves struct {
	ahead, behind []int
}

// same are the moves of an edit for which behind tells nothing.
func same(places ...int) moves { return moves{places, places} }

// model goes through an edit byte by byte, and tells where its places come to stand.
func model(cs []api.Comp) moves {
	m, to := moves{[]int{0}, []int{0}}, 0
	for _, c := range cs {
		for range len(c.Text) {
			// The last place so far is the one at which this is put.
			to++
			m.behind[len(m.behind)-1] = to
		}
		for range c.N {
			if c.Kind == api.CompKeep {
				to++
			}
			m.ahead, m.behind = append(m.ahead, to), append(m.behind, to)
		}
	}
	return m
}

// short is every edit of at most n short pieces that may be.
func short(n int) [][]api.Comp {
	pieces := edit(keep(1), keep(2), keep(3), cut(1), cut(2), cut(3), put("x"), put("yz"))
	var found [][]api.Comp
	var grow func(cs []api.Comp)
	grow = func(cs []api.Comp) {
		found = append(found, cs)
		if len(cs) == n {
			return
		}
		for _, c := range pieces {
			if more := append(slices.Clone(cs), c); comp.May(more) {
				grow(more)
			}
		}
	}
	grow(nil)
	return found
}

// row is an edit, and where its places come to stand.
type row struct {
	cs   []api.Comp
	want moves
}

// ordinary are edits as they come.
func ordinary() map[string]row {
	return map[string]row{
		"keep, put":            {edit(keep(2), put("xyz")), moves{[]int{0, 1, 2}, []int{0, 1, 5}}},
		"put, keep":            {edit(put("xyz"), keep(2)), moves{[]int{0, 4, 5}, []int{3, 4, 5}}},
		"keep, put, keep":      {edit(keep(2), put("xyz"), keep(2)), moves{[]int{0, 1, 2, 6, 7}, []int{0, 1, 5, 6, 7}}},
		"keep, cut":            {edit(keep(2), cut(3)), same(0, 1, 2, 2, 2, 2)},
		"cut, keep":            {edit(cut(3), keep(2)), same(0, 0, 0, 0, 1, 2)},
		"keep, cut, keep":      {edit(keep(2), cut(3), keep(2)), same(0, 1, 2, 2, 2, 2, 3, 4)},
		"cut, keep, cut":       {edit(cut(2), keep(1), cut(2)), same(0, 0, 0, 1, 1, 1)},
		"put, cut":             {edit(put("xy"), cut(3)), moves{[]int{0, 2, 2, 2}, []int{2, 2, 2, 2}}},
		"put, cut, keep":       {edit(put("xy"), cut(2), keep(2)), moves{[]int{0, 2, 2, 3, 4}, []int{2, 2, 2, 3, 4}}},
		"keep, put, cut":       {edit(keep(1), put("xy"), cut(2)), moves{[]int{0, 1, 3, 3}, []int{0, 3, 3, 3}}},
		"keep, put, cut, keep": {edit(keep(1), put("xy"), cut(2), keep(1)), moves{[]int{0, 1, 3, 3, 4}, []int{0, 3, 3, 3, 4}}},
		"put, keep, put":       {edit(put("x"), keep(1), put("yz")), moves{[]int{0, 2}, []int{1, 4}}},
		"cut, keep, put":       {edit(cut(2), keep(1), put("xy")), moves{[]int{0, 0, 0, 1}, []int{0, 0, 0, 3}}},
		"puts at two places":   {edit(keep(1), put("xy"), keep(1), put("z"), keep(1)), moves{[]int{0, 1, 4, 6}, []int{0, 3, 5, 6}}},
		"puts about a cut":     {edit(put("xy"), cut(1), keep(1), put("z"), cut(1)), moves{[]int{0, 2, 3, 4}, []int{2, 2, 4, 4}}},
		"all kinds by turns": {
			edit(put("xy"), cut(2), keep(2), cut(1), keep(1), put("z"), keep(1)),
			moves{[]int{0, 2, 2, 3, 4, 4, 5, 7}, []int{2, 2, 2, 3, 4, 4, 6, 7}},
		},
		"half of a letter": {edit(put("\xc3"), cut(1), keep(1), put("\xff\x00")), moves{[]int{0, 1, 2}, []int{1, 1, 4}}},
	}
}

// edges are edits at the ends of what may be that have few places.
func edges() map[string]row {
	most := full(api.MaxLen)
	return map[string]row{
		"no list":               {nil, same(0)},
		"no piece":              {edit(), same(0)},
		"keep one":              {edit(keep(1)), same(0, 1)},
		"cut one":               {edit(cut(1)), same(0, 0)},
		"put one":               {edit(put("x")), moves{[]int{0}, []int{1}}},
		"keep all":              {edit(keep(4)), same(0, 1, 2, 3, 4)},
		"cut all":               {edit(cut(4)), same(0, 0, 0, 0, 0)},
		"put alone":             {edit(put("wxyz")), moves{[]int{0}, []int{4}}},
		"put the most":          {edit(put(most)), moves{[]int{0}, []int{api.MaxLen}}},
		"put the most, cut":     {edit(put(most), cut(2)), moves{[]int{0, api.MaxLen, api.MaxLen}, []int{api.MaxLen, api.MaxLen, api.MaxLen}}},
		"grow to the most":      {edit(put(most[1:]), keep(1)), moves{[]int{0, api.MaxLen}, []int{api.MaxLen - 1, api.MaxLen}}},
		"grow to it at the end": {edit(keep(1), put(most[1:])), moves{[]int{0, 1}, []int{0, api.MaxLen}}},
	}
}

// long are edits with as many places, or as many pieces, as may be.
func long() map[string][]api.Comp {
	const most = api.MaxLen
	return map[string][]api.Comp{
		"keep the most":         edit(keep(most)),
		"cut the most":          edit(cut(most)),
		"the most for the most": edit(put(full(most)), cut(most)),
		"all but one":           edit(cut(most-1), keep(1)),
		"one":                   edit(keep(most-1), cut(1)),
		"put behind the most":   edit(keep(most-1), put("x")),
		"cuts by turns":         times(most, cut(1), keep(1)),
		"puts by turns":         times(most, put("x"), keep(1)),
		"puts behind keeps":     times(most, keep(1), put("x")),
		"all kinds by turns":    times(most, put("x"), cut(1), keep(1)),
	}
}

// right are all edits that may be, but for the short ones.
func right() map[string][]api.Comp {
	all := long()
	for name, r := range ordinary() {
		all["ordinary: "+name] = r.cs
	}
	for name, r := range edges() {
		all["edge: "+name] = r.cs
	}
	return all
}

// wrong are edits that may not be.
func wrong() map[string][]api.Comp {
	return map[string][]api.Comp{
		"keep nothing":         edit(keep(0)),
		"put nothing":          edit(put("")),
		"cut nothing":          edit(cut(0)),
		"nothing ahead":        edit(put(""), keep(3)),
		"nothing between":      edit(keep(1), put(""), cut(2)),
		"nothing behind":       edit(keep(3), cut(0)),
		"two keeps":            edit(keep(1), keep(2)),
		"two cuts":             edit(cut(1), cut(2)),
		"two puts":             edit(put("x"), put("y"), keep(3)),
		"cut, put":             edit(cut(3), put("x")),
		"keep, cut, put, keep": edit(keep(1), cut(1), put("x"), keep(1)),
		"a kind above all":     edit(api.Comp{Kind: 3, N: 3}),
		"a kind below all":     edit(api.Comp{Kind: -1, N: 3}),
		"the greatest kind":    edit(keep(3), api.Comp{Kind: math.MaxInt, Text: "x"}),
		"the least kind":       edit(api.Comp{Kind: math.MinInt}, keep(3)),
		"keep below 0":         edit(keep(-1)),
		"cut below 0":          edit(cut(-1)),
		"below 0 made good":    edit(keep(4), cut(-1)),
		"keep the least":       edit(keep(math.MinInt)),
		"cut the greatest":     edit(cut(math.MaxInt)),
		"keeps wrap round":     edit(keep(math.MaxInt), put("x"), keep(math.MaxInt), put("x"), keep(2)),
		"keep with a Text":     edit(api.Comp{Kind: api.CompKeep, N: 3, Text: "x"}),
		"cut with a Text":      edit(api.Comp{Kind: api.CompCut, N: 3, Text: "x"}),
		"put with an N":        edit(api.Comp{Kind: api.CompPut, N: 3, Text: "x"}),
		"put with N below 0":   edit(api.Comp{Kind: api.CompPut, N: -1, Text: "x"}, keep(4)),
		"put too much":         edit(put(full(api.MaxLen + 1))),
		"keep too much":        edit(keep(api.MaxLen + 1)),
		"cut too much":         edit(cut(api.MaxLen + 1)),
		"From above":           edit(keep(api.MaxLen), cut(1)),
		"To above":             edit(put(full(api.MaxLen)), keep(1)),
		"To above at the end":  edit(keep(api.MaxLen), put("x")),
		"a piece too many":     times(api.MaxLen+1, put("A"), cut(1), keep(1)),
	}
}

// brief is what a message shows of an edit, which may be a long one.
func brief(cs []api.Comp) string {
	s := fmt.Sprint(cs)
	if len(s) > 200 {
		s = s[:200] + " .."
	}
	return s
}

// answers: does Move tell this place?
func answers(t *testing.T, cs []api.Comp, at int, behind bool, want int) {
	t.Helper()
	if got, e := cursor.Move(cs, at, behind); got != want || e != api.OK {
		t.Errorf("%s, %d, %v: %d, %d, want %d", brief(cs), at, behind, got, e, want)
	}
}

// answersAll: does Move tell these places, one for each from 0 to From, and refuse those beside them?
func answersAll(t *testing.T, cs []api.Comp, want moves) {
	t.Helper()
	from, _ := sums(cs)
	if len(want.ahead) != from+1 || len(want.behind) != from+1 {
		t.Fatalf("%s has %d places; the test names %d and %d", brief(cs), from+1, len(want.ahead), len(want.behind))
	}
	for at := range from + 1 {
		answers(t, cs, at, false, want.ahead[at])
		answers(t, cs, at, true, want.behind[at])
	}
	refused(t, cs, -1)
	refused(t, cs, from+1)
}

// refused: does Move refuse this place, with and without behind, with 0 beside the error?
func refused(t *testing.T, cs []api.Comp, at int) {
	t.Helper()
	for _, behind := range []bool{false, true} {
		if got, e := cursor.Move(cs, at, behind); got != 0 || e != api.ErrCursorForm {
			t.Errorf("%s, %d, %v: %d, %d", brief(cs), at, behind, got, e)
		}
	}
}

// P6.1

func TestMove(t *testing.T) {
	for name, r := range ordinary() {
		t.Run(name, func(t *testing.T) { answersAll(t, r.cs, r.want) })
	}
}

func TestMoveAtTheEdges(t *testing.T) {
	for name, r := range edges() {
		t.Run(name, func(t *testing.T) { answersAll(t, r.cs, r.want) })
	}
}

// The first place and the last one, in edits with as many places or pieces as may be.
func TestMoveAtTheEndsOfLongEdits(t *testing.T) {
	const most, half = api.MaxLen, api.MaxLen / 2
	answers(t, edit(keep(most)), 0, true, 0)
	answers(t, edit(keep(most)), most, false, most)
	answers(t, edit(cut(most)), 0, true, 0)
	answers(t, edit(cut(most)), most, true, 0)
	answers(t, edit(put(full(most)), cut(most)), 0, false, 0)
	answers(t, edit(put(full(most)), cut(most)), 0, true, most)
	answers(t, edit(put(full(most)), cut(most)), most, false, most)
	answers(t, edit(keep(most-1), put("x")), most-1, false, most-1)
	answers(t, edit(keep(most-1), put("x")), most-1, true, most)
	answers(t, times(most, put("x"), keep(1)), 0, false, 0)
	answers(t, times(most, put("x"), keep(1)), 0, true, 1)
	answers(t, times(most, put("x"), keep(1)), half, false, most)
	answers(t, times(most, keep(1), put("x")), half, false, most-1)
	answers(t, times(most, keep(1), put("x")), half, true, most)
	answers(t, times(most, cut(1), keep(1)), most, false, half)
}

func TestMoveWithinLongEdits(t *testing.T) {
	for name, cs := range long() {
		from, _ := sums(cs)
		want := model(cs)
		for at := 0; at <= from; at += 1 + at%13 {
			answers(t, cs, at, false, want.ahead[at])
			answers(t, cs, at, true, want.behind[at])
		}
		if t.Failed() {
			t.Fatal(name)
		}
	}
}

// Every place of every short edit goes where the bytes ahead of it go.
func TestMoveOfEveryShortEdit(t *testing.T) {
	for _, cs := range short(5) {
		answersAll(t, cs, model(cs))
		if t.Failed() {
			t.FailNow()
		}
	}
}

// A place stands where something put there would stand by layer 5: with behind the edit puts ahead of it.
func TestMoveGoesWithWhatIsPutThere(t *testing.T) {
	for _, cs := range short(4) {
		from, to := sums(cs)
		for at := range from + 1 {
			mark, _ := comp.Normal(edit(keep(at), put("|"), keep(from-at)))
			for _, behind := range []bool{false, true} {
				_, moved, e := transform.Transform(cs, mark, behind)
				got, f := cursor.Move(cs, at, behind)
				want, _ := comp.Normal(edit(keep(got), put("|"), keep(to-got)))
				if e != api.OK || f != api.OK || !slices.Equal(moved, want) {
					t.Fatalf("%v, %d, %v: %d, %d; the mark: %v, %d", cs, at, behind, got, f, moved, e)
				}
			}
		}
	}
}

// Places keep their row, and stay in the text that the edit leaves.
func TestMoveKeepsTheRow(t *testing.T) {
	for _, cs := range short(4) {
		from, to := sums(cs)
		last := 0
		for at := range from + 1 {
			ahead, e := cursor.Move(cs, at, false)
			behind, f := cursor.Move(cs, at, true)
			if e != api.OK || f != api.OK || last > ahead || ahead > behind || behind > to {
				t.Fatalf("%v, %d: behind %d, in %d: %d, %d; %d, %d", cs, at, last, to, ahead, behind, e, f)
			}
			last = behind
		}
		if last != to {
			t.Fatalf("%v: the last place is %d, not %d", cs, last, to)
		}
	}
}

func TestMoveRefusesWhatMayNotBe(t *testing.T) {
	for name, cs := range wrong() {
		t.Run(name, func(t *testing.T) {
			for _, at := range []int{0, 1, 2, 3, api.MaxLen, -1, math.MaxInt, math.MinInt} {
				refused(t, cs, at)
			}
		})
	}
}

func TestMoveRefusesOtherPlaces(t *testing.T) {
	for name, cs := range right() {
		from, _ := sums(cs)
		for _, at := range []int{-1, -2, -from - 1, -api.MaxLen, math.MinInt, math.MinInt + 1} {
			refused(t, cs, at)
		}
		for _, at := range []int{from + 1, from + 2, from + api.MaxLen, api.MaxLen + 1, math.MaxInt, math.MaxInt - 1} {
			refused(t, cs, at)
		}
		if t.Failed() {
			t.Fatal(name)
		}
	}
}

// A place of the text that the edit leaves need be none of the text that it takes.
func TestMoveAsksFromNotTo(t *testing.T) {
	cs := edit(keep(1), put("xyz"), cut(1))
	answers(t, cs, 2, false, 4)
	refused(t, cs, 3)
	refused(t, cs, 4)
	answers(t, edit(keep(1), cut(3)), 4, false, 1)
}

// The rules of all calls.

// mark stands in the spare room behind an edit.
var mark = api.Comp{Kind: 77, N: 77, Text: "spare"}

func TestArgumentsStay(t *testing.T) {
	tried := wrong()
	for name, cs := range right() {
		tried["right: "+name] = cs
	}
	for name, cs := range tried {
		room := append(slices.Clone(cs), mark, mark)
		old := slices.Clone(room)
		from, _ := sums(cs)
		for _, at := range []int{0, 1, from / 2, from, from + 1, -1} {
			cursor.Move(room[:len(cs)], at, false)
			cursor.Move(room[:len(cs)], at, true)
		}
		if !slices.Equal(room, old) {
			t.Errorf("%s: changed", name)
		}
	}
}

// What stands in the spare room is no piece of the edit.
func TestSpareRoomIsNotRead(t *testing.T) {
	room := edit(keep(2), put("xy"), keep(3), mark)
	answers(t, room[:1], 2, true, 2)
	answers(t, room[:2], 2, true, 4)
	refused(t, room[:2], 3)
}

func TestCallsAtOneTime(t *testing.T) {
	cs := edit(keep(1), put("xy"), cut(2), keep(1))
	var right atomic.Int64
	var group sync.WaitGroup
	for range 8 {
		group.Add(1)
		go func() {
			defer group.Done()
			for range 100 {
				ahead, e := cursor.Move(cs, 1, false)
				behind, f := cursor.Move(cs, 1, true)
				none, g := cursor.Move(cs, 5, true)
				if ahead == 1 && e == api.OK && behind == 3 && f == api.OK && none == 0 && g == api.ErrCursorForm {
					right.Add(1)
				}
			}
		}()
	}
	group.Wait()
	if right.Load() != 800 {
		t.Errorf("%d of 800 calls were right", right.Load())
	}
}
