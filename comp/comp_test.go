package comp_test

import (
	"math"
	"slices"
	"strconv"
	"strings"
	"sync"
	"sync/atomic"
	"testing"
	"unsafe"

	"minuet/api"
	"minuet/comp"
)

func keep(n int) api.Comp { return api.Comp{Kind: api.CompKeep, N: n} }

func cut(n int) api.Comp { return api.Comp{Kind: api.CompCut, N: n} }

func put(s string) api.Comp { return api.Comp{Kind: api.CompPut, Text: s} }

// edit is a list of pieces.
func edit(cs ...api.Comp) []api.Comp { return cs }

// times is pieces, again and again, n pieces in all.
func times(n int, cs ...api.Comp) []api.Comp {
	all := make([]api.Comp, n)
	for i := range all {
		all[i] = cs[i%len(cs)]
	}
	return all
}

// full is a text of n bytes in which neighbors differ.
func full(n int) string {
	b := make([]byte, n)
	for i := range b {
		b[i] = 'a' + byte(i*7%26)
	}
	return string(b)
}

// rewritten is a raw edit's normal form by the document's words: one change at a time, until there is none.
func rewritten(cs []api.Comp) []api.Comp {
	all := slices.Clone(cs)
	for again := true; again; {
		again = false
		for i := 0; i < len(all) && !again; i++ {
			switch {
			case all[i].N == 0 && all[i].Text == "":
				all = slices.Delete(all, i, i+1)
				again = true
			case i == 0:
			case all[i-1].Kind == all[i].Kind:
				all[i-1].N += all[i].N
				all[i-1].Text += all[i].Text
				all = slices.Delete(all, i, i+1)
				again = true
			case all[i-1].Kind == api.CompCut && all[i].Kind == api.CompPut:
				all[i-1], all[i] = all[i], all[i-1]
				again = true
			}
		}
	}
	return all
}

// sums are From and To by the document's words.
func sums(cs []api.Comp) (int, int) {
	from, to := 0, 0
	for _, c := range cs {
		switch c.Kind {
		case api.CompKeep:
			from, to = from+c.N, to+c.N
		case api.CompPut:
			to += len(c.Text)
		case api.CompCut:
			from += c.N
		}
	}
	return from, to
}

// all goes through every edit of at most n pieces of a few kinds and lengths.
func all(n int, visit func([]api.Comp)) {
	pieces := edit(keep(0), keep(1), keep(2), put(""), put("a"), put("bc"), cut(0), cut(1), cut(2))
	var grow func(cs []api.Comp)
	grow = func(cs []api.Comp) {
		visit(cs)
		if len(cs) == n {
			return
		}
		for _, c := range pieces {
			grow(append(slices.Clone(cs), c))
		}
	}
	grow(nil)
}

// wrong are edits that are not raw, or too long on one side: no call takes them.
func wrong() map[string][]api.Comp {
	most := full(api.MaxLen)
	bad := map[string][]api.Comp{
		"a kind above all":        edit(api.Comp{Kind: 3}),
		"a kind above all, N":     edit(api.Comp{Kind: 3, N: 1}),
		"a kind below all":        edit(api.Comp{Kind: -1}),
		"a kind below all, Text":  edit(api.Comp{Kind: -1, Text: "a"}),
		"the greatest kind":       edit(api.Comp{Kind: math.MaxInt, N: 1}),
		"the least kind":          edit(api.Comp{Kind: math.MinInt, N: 1}),
		"keep below 0":            edit(keep(-1)),
		"cut below 0":             edit(cut(-1)),
		"keep the least":          edit(keep(math.MinInt)),
		"cut the least":           edit(cut(math.MinInt)),
		"keep one too many":       edit(keep(api.MaxLen + 1)),
		"cut one too many":        edit(cut(api.MaxLen + 1)),
		"keep the greatest":       edit(keep(math.MaxInt)),
		"cut the greatest":        edit(cut(math.MaxInt)),
		"keep wraps round":        edit(keep(math.MaxInt), keep(1), keep(math.MaxInt), keep(1)),
		"cut wraps round":         edit(cut(math.MaxInt), put("a"), cut(math.MinInt), put("a"), cut(2)),
		"keep below 0 made good":  edit(keep(-1), keep(2)),
		"cut below 0 made good":   edit(cut(2), keep(1), cut(-1)),
		"keep with a Text":        edit(api.Comp{Kind: api.CompKeep, N: 1, Text: "a"}),
		"keep with a Text alone":  edit(api.Comp{Kind: api.CompKeep, Text: "a"}),
		"cut with a Text":         edit(api.Comp{Kind: api.CompCut, N: 1, Text: "a"}),
		"cut with a Text alone":   edit(api.Comp{Kind: api.CompCut, Text: "a"}),
		"put with an N":           edit(api.Comp{Kind: api.CompPut, N: 1, Text: "a"}),
		"put with an N alone":     edit(api.Comp{Kind: api.CompPut, N: 1}),
		"put with an N below 0":   edit(api.Comp{Kind: api.CompPut, N: -1, Text: "a"}),
		"put one too many":        edit(put(most + "a")),
		"one piece too many":      times(api.MaxLen+1, put("a"), cut(1), keep(1)),
		"one nothing too many":    times(api.MaxLen+1, keep(0), put(""), cut(0)),
		"From by keeps":           edit(keep(api.MaxLen), keep(1)),
		"From by cuts":            edit(cut(api.MaxLen), cut(1)),
		"From by keep and cut":    edit(keep(api.MaxLen), cut(1)),
		"From by cut and keep":    edit(cut(api.MaxLen), keep(1)),
		"From by one in the rear": edit(cut(1), keep(api.MaxLen-1), put("a"), cut(1)),
		"To by puts":              edit(put(most), put("a")),
		"To by put and keep":      edit(put(most), keep(1)),
		"To by keep and put":      edit(keep(api.MaxLen), put("a")),
		"To beside cuts":          edit(put(most), cut(1), put("a")),
		"From by all":             times(api.MaxLen, keep(api.MaxLen)),
		"To by all":               times(api.MaxLen, put(most)),
	}
	for i, c := range edit(api.Comp{Kind: 3}, keep(-1), api.Comp{Kind: api.CompCut, Text: "a"}, api.Comp{Kind: api.CompPut, N: 1}) {
		bad[strconv.Itoa(i)+" ahead of a right one"] = edit(c, keep(1))
		bad[strconv.Itoa(i)+" between right ones"] = edit(keep(1), put("a"), c, cut(1), keep(1))
		bad[strconv.Itoa(i)+" behind a right one"] = edit(keep(1), c)
	}
	return bad
}

// edges are edits that just may be.
func edges() map[string][]api.Comp {
	most := full(api.MaxLen)
	return map[string][]api.Comp{
		"no list":               nil,
		"no piece":              edit(),
		"keep one":              edit(keep(1)),
		"put one":               edit(put("a")),
		"put a byte of 0":       edit(put("\x00")),
		"put bytes of no rune":  edit(put("\xff\xc0")),
		"cut one":               edit(cut(1)),
		"keep the most":         edit(keep(api.MaxLen)),
		"put the most":          edit(put(most)),
		"cut the most":          edit(cut(api.MaxLen)),
		"put, cut the most":     edit(put(most), cut(api.MaxLen)),
		"From the most":         edit(keep(1), cut(api.MaxLen-1)),
		"From the most, parted": edit(cut(api.MaxLen-2), keep(1), cut(1)),
		"To the most":           edit(keep(1), put(most[1:])),
		"To the most, parted":   edit(put(most[2:]), keep(1), put("a")),
		"all kinds":             edit(put("a"), cut(1), keep(1), put("b"), keep(2), cut(3)),
		"the most pieces":       times(api.MaxLen, keep(1), cut(1)),
		"the most, put":         times(api.MaxLen, put("a"), keep(1)),
		"the most, all kinds":   times(api.MaxLen, put("a"), cut(1), keep(1)),
	}
}

// unlike are raw edits that are not in normal form, and their normal forms.
func unlike() map[string][2][]api.Comp {
	most := full(api.MaxLen)
	half := api.MaxLen / 2
	return map[string][2][]api.Comp{
		"keep nothing":           {edit(keep(0)), nil},
		"put nothing":            {edit(put("")), nil},
		"cut nothing":            {edit(cut(0)), nil},
		"nothing, the most":      {times(api.MaxLen, keep(0), put(""), cut(0)), nil},
		"nothing ahead":          {edit(keep(0), cut(1)), edit(cut(1))},
		"nothing between":        {edit(keep(1), put(""), cut(1)), edit(keep(1), cut(1))},
		"nothing behind":         {edit(put("a"), cut(0)), edit(put("a"))},
		"keeps":                  {edit(keep(1), keep(2), keep(3)), edit(keep(6))},
		"puts":                   {edit(put("ab"), put("c"), put("de")), edit(put("abcde"))},
		"cuts":                   {edit(cut(1), cut(2), cut(3)), edit(cut(6))},
		"keeps around nothing":   {edit(keep(1), cut(0), put(""), keep(2)), edit(keep(3))},
		"puts around nothing":    {edit(put("a"), keep(0), put("b")), edit(put("ab"))},
		"cuts around nothing":    {edit(cut(1), put(""), cut(2)), edit(cut(3))},
		"cut, put":               {edit(cut(1), put("a")), edit(put("a"), cut(1))},
		"cut, nothing, put":      {edit(cut(1), keep(0), put("a")), edit(put("a"), cut(1))},
		"cut, nothings, put":     {edit(cut(1), keep(0), put(""), cut(0), put("a")), edit(put("a"), cut(1))},
		"put, cut, put":          {edit(put("a"), cut(1), put("b")), edit(put("ab"), cut(1))},
		"cut, put, cut":          {edit(cut(1), put("a"), cut(2)), edit(put("a"), cut(3))},
		"cuts, puts by turns":    {edit(cut(1), put("a"), cut(2), put("b"), cut(3), put("c")), edit(put("abc"), cut(6))},
		"keep, cut, put, keep":   {edit(keep(1), cut(1), put("a"), keep(1)), edit(keep(1), put("a"), cut(1), keep(1))},
		"a keep parts":           {edit(cut(1), put("a"), keep(1), cut(1), put("b")), edit(put("a"), cut(1), keep(1), put("b"), cut(1))},
		"keeps, the most":        {times(api.MaxLen, keep(1)), edit(keep(api.MaxLen))},
		"cuts, the most":         {edit(cut(half), cut(half)), edit(cut(api.MaxLen))},
		"puts, the most":         {edit(put(most[:half]), put(most[half:])), edit(put(most))},
		"puts one by one":        {times(api.MaxLen, put("a")), edit(put(strings.Repeat("a", api.MaxLen)))},
		"cut, put by turns":      {times(api.MaxLen, cut(2), put("ab")), edit(put(strings.Repeat("ab", half)), cut(api.MaxLen))},
		"cut, put the most":      {edit(cut(api.MaxLen), put(most)), edit(put(most), cut(api.MaxLen))},
		"From the most, nothing": {edit(keep(api.MaxLen), keep(0), put("")), edit(keep(api.MaxLen))},
	}
}

// P2.1

func TestMayTakesNormalEdits(t *testing.T) {
	for name, cs := range edges() {
		if !comp.May(cs) {
			t.Errorf("%s: may not be", name)
		}
	}
}

func TestMayRefusesWrongEdits(t *testing.T) {
	for name, cs := range wrong() {
		if comp.May(cs) {
			t.Errorf("%s: may be", name)
		}
	}
}

func TestMayRefusesWhatIsNotNormal(t *testing.T) {
	for name, row := range unlike() {
		if comp.May(row[0]) || !comp.May(row[1]) {
			t.Errorf("%s: %v, its normal form %v", name, comp.May(row[0]), comp.May(row[1]))
		}
	}
}

// Which kinds may stand beside each other, all nine.
func TestMayOfNeighbors(t *testing.T) {
	pieces := map[int]api.Comp{api.CompKeep: keep(1), api.CompPut: put("a"), api.CompCut: cut(1)}
	for a, ahead := range pieces {
		for b, behind := range pieces {
			want := a != b && !(a == api.CompCut && b == api.CompPut)
			if comp.May(edit(ahead, behind)) != want {
				t.Errorf("%d, %d: %v", a, b, !want)
			}
		}
	}
}

// P2.2

func TestNormalForms(t *testing.T) {
	for name, row := range unlike() {
		if got, e := comp.Normal(row[0]); e != api.OK || !slices.Equal(got, row[1]) {
			t.Errorf("%s: %v, %d, want %v", name, got, e, row[1])
		}
	}
}

func TestNormalLeavesNormalEdits(t *testing.T) {
	for name, cs := range edges() {
		if got, e := comp.Normal(cs); e != api.OK || !slices.Equal(got, cs) {
			t.Errorf("%s: %v, %d", name, got, e)
		}
	}
}

func TestNormalRefusesWrongEdits(t *testing.T) {
	for name, cs := range wrong() {
		if got, e := comp.Normal(cs); e != api.ErrCompForm || len(got) != 0 {
			t.Errorf("%s: %v, %d", name, got, e)
		}
	}
}

// P2.3

func TestLengths(t *testing.T) {
	for name, cs := range edges() {
		wantFrom, wantTo := sums(cs)
		if from, to, e := comp.Lengths(cs); from != wantFrom || to != wantTo || e != api.OK {
			t.Errorf("%s: %d, %d, %d, want %d, %d", name, from, to, e, wantFrom, wantTo)
		}
	}
	if from, to, e := comp.Lengths(edit(keep(5), put("abc"), cut(20), keep(1))); from != 26 || to != 9 || e != api.OK {
		t.Errorf("%d, %d, %d, want 26, 9", from, to, e)
	}
}

func TestLengthsOfWhatMayNotBe(t *testing.T) {
	for name, cs := range wrong() {
		if from, to, e := comp.Lengths(cs); from != 0 || to != 0 || e != api.ErrCompForm {
			t.Errorf("%s: %d, %d, %d", name, from, to, e)
		}
	}
	for name, row := range unlike() {
		if from, to, e := comp.Lengths(row[0]); from != 0 || to != 0 || e != api.ErrCompForm {
			t.Errorf("%s: %d, %d, %d", name, from, to, e)
		}
	}
}

// P2.1 to P2.3 together: every short edit.

func TestEveryShortEdit(t *testing.T) {
	all(5, func(cs []api.Comp) {
		want := rewritten(cs)
		got, e := comp.Normal(cs)
		if e != api.OK || !slices.Equal(got, want) {
			t.Fatalf("%v: %v, %d, want %v", cs, got, e, want)
		}
		may := slices.Equal(cs, want)
		if comp.May(cs) != may || !comp.May(want) {
			t.Fatalf("%v: May %v", cs, !may)
		}
		wantFrom, wantTo, wantE := 0, 0, api.ErrCompForm
		if may {
			wantFrom, wantTo = sums(cs)
			wantE = api.OK
		}
		if from, to, e := comp.Lengths(cs); from != wantFrom || to != wantTo || e != wantE {
			t.Fatalf("%v: %d, %d, %d, want %d, %d, %d", cs, from, to, e, wantFrom, wantTo, wantE)
		}
	})
}

// The rules of all calls.

// mark stands in the spare room behind an edit.
var mark = api.Comp{Kind: 77, N: 77, Text: "spare"}

func TestArgumentsStay(t *testing.T) {
	tried := wrong()
	for name, cs := range edges() {
		tried["edge: "+name] = cs
	}
	for name, row := range unlike() {
		tried["unlike: "+name] = row[0]
	}
	for name, cs := range tried {
		room := append(slices.Clone(cs), mark, mark)
		old := slices.Clone(room)
		handed := room[:len(cs)]
		comp.May(handed)
		comp.Normal(handed)
		comp.Lengths(handed)
		if !slices.Equal(room, old) {
			t.Errorf("%s: changed", name)
		}
	}
}

func TestAnswersAreNewMemory(t *testing.T) {
	cs := edit(put("abc"), cut(1), keep(2), put("d"), put("e"), keep(3), cut(4), put("fgh"))
	old := slices.Clone(cs)
	got, _ := comp.Normal(cs)
	again, _ := comp.Normal(cs)
	want := slices.Clone(again)
	for i := range got {
		got[i] = mark
	}
	_ = append(got[:0], times(cap(got), mark)...)
	if !slices.Equal(cs, old) || !slices.Equal(again, want) {
		t.Errorf("%v, %v: an answer was written into", cs, again)
	}
	given := map[*byte]int{}
	for _, c := range cs {
		if c.Text != "" {
			given[unsafe.StringData(c.Text)]++
		}
	}
	for _, c := range again {
		if c.Text != "" && given[unsafe.StringData(c.Text)] > 0 {
			t.Errorf("%v has a text that was handed in", c)
		}
	}
}

func TestCallsAtOneTime(t *testing.T) {
	cs := edit(keep(1), cut(1), put("a"), keep(0), put("b"), cut(2), keep(1))
	want := rewritten(cs)
	var right atomic.Int64
	var group sync.WaitGroup
	for range 8 {
		group.Add(1)
		go func() {
			defer group.Done()
			for range 100 {
				got, e := comp.Normal(cs)
				from, to, f := comp.Lengths(got)
				if e == api.OK && slices.Equal(got, want) && comp.May(got) && from == 5 && to == 4 && f == api.OK {
					right.Add(1)
				}
			}
		}()
	}
	group.Wait()
	if right.Load() != 800 {
		t.Errorf("%d of 800 calls were right", right.Load())
	}
}
