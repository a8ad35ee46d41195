package transform_test

import (
	"fmt"
	"math"
	"slices"
	"strings"
	"sync"
	"sync/atomic"
	"testing"
	"unsafe"

	"minuet/api"
	"minuet/apply"
	"minuet/comp"
	"minuet/transform"
)

func keep(n int) api.Comp { return api.Comp{Kind: api.CompKeep, N: n} }

func cut(n int) api.Comp { return api.Comp{Kind: api.CompCut, N: n} }

func put(s string) api.Comp { return api.Comp{Kind: api.CompPut, Text: s} }

// edit is a list of pieces.
func edit(cs ...api.Comp) []api.Comp { return cs }

// times is pieces, again and again, n pieces in all.
func times(n int, cs ...api.Comp) []api.Comp {
	all := make([]api.Comp, n)
	for i := range all {
		all[i] = cs[i%len(cs)]
	}
	return all
}

// whole is the edit that keeps all of n bytes.
func whole(n int) []api.Comp {
	if n == 0 {
		return nil
	}
	return edit(keep(n))
}

// full is a text of n bytes in which neighbors differ.
func full(n int) string {
	b := make([]byte, n)
	for i := range b {
		b[i] = 'a' + byte(i*7%26)
	}
	return string(b)
}

// sums are From and To by the document's words.
func sums(cs []api.Comp) (int, int) {
	from, to := 0, 0
	for _, c := range cs {
		if c.Kind != api.CompPut {
			from += c.N
		}
		if c.Kind == api.CompKeep {
			to += c.N
		}
		to += len(c.Text)
	}
	return from, to
}

// plan is an edit by places: what is put at each place of a text, and whether the byte behind that place is cut.
type plan struct {
	puts []string
	cuts []bool
}

func planned(cs []api.Comp) plan {
	p := plan{puts: []string{""}}
	for _, c := range cs {
		p.puts[len(p.cuts)] += c.Text
		for range c.N {
			p.cuts = append(p.cuts, c.Kind == api.CompCut)
			p.puts = append(p.puts, "")
		}
	}
	return p
}

// teller writes an edit in normal form, byte by byte.
type teller struct {
	told       []api.Comp
	kept, gone int
	text       string
}

func (w *teller) keep(n int) {
	if n > 0 && (w.text != "" || w.gone > 0) {
		w.flush()
	}
	w.kept += n
}

func (w *teller) cut(n int) { w.gone += n }

func (w *teller) put(s string) { w.text += s }

// flush tells what was kept, and what is put and cut behind it.
func (w *teller) flush() []api.Comp {
	for _, c := range edit(keep(w.kept), put(w.text), cut(w.gone)) {
		if c.N > 0 || c.Text != "" {
			w.told = append(w.told, c)
		}
	}
	w.kept, w.text, w.gone = 0, "", 0
	return w.told
}

// behind is an edit behind another one, place by place. ahead: does what it puts stand ahead of the other's put there?
func behind(own, other plan, ahead bool) []api.Comp {
	var w teller
	for i, text := range own.puts {
		if ahead {
			w.put(text)
		}
		w.keep(len(other.puts[i]))
		if !ahead {
			w.put(text)
		}
		switch {
		case i == len(own.cuts) || other.cuts[i]:
		case own.cuts[i]:
			w.cut(1)
		default:
			w.keep(1)
		}
	}
	return w.flush()
}

// pair is a behind b, and b behind a.
type pair struct {
	p, q []api.Comp
}

// model is what Transform should answer.
func model(a, b []api.Comp, first bool) pair {
	return pair{behind(planned(a), planned(b), first), behind(planned(b), planned(a), !first)}
}

// short is every edit of at most n short pieces that may be, with these texts to put.
func short(n int, texts ...string) [][]api.Comp {
	pieces := edit(keep(1), keep(2), cut(1), cut(2))
	for _, s := range texts {
		pieces = append(pieces, put(s))
	}
	var found [][]api.Comp
	var grow func(cs []api.Comp)
	grow = func(cs []api.Comp) {
		found = append(found, cs)
		if len(cs) == n {
			return
		}
		for _, c := range pieces {
			if more := append(slices.Clone(cs), c); comp.May(more) {
				grow(more)
			}
		}
	}
	grow(nil)
	return found
}

// row is two edits, and each behind the other one: with first, and without.
type row struct {
	a, b        []api.Comp
	first, late pair
}

// alike is a row in which first tells nothing.
func alike(a, b, p, q []api.Comp) row {
	return row{a, b, pair{p, q}, pair{p, q}}
}

// apart are edits as they come that never put at one place both.
func apart() map[string]row {
	return map[string]row{
		"keep, keep":          alike(edit(keep(3)), edit(keep(3)), edit(keep(3)), edit(keep(3))),
		"keep, cut":           alike(edit(keep(3)), edit(cut(3)), nil, edit(cut(3))),
		"cut, cut":            alike(edit(cut(3)), edit(cut(3)), nil, nil),
		"put, keep":           alike(edit(put("ab"), keep(3)), edit(keep(3)), edit(put("ab"), keep(3)), edit(keep(5))),
		"put behind a keep":   alike(edit(keep(3), put("ab")), edit(keep(3)), edit(keep(3), put("ab")), edit(keep(5))),
		"put within a keep":   alike(edit(keep(1), put("ab"), keep(2)), edit(keep(3)), edit(keep(1), put("ab"), keep(2)), edit(keep(5))),
		"put ahead of a cut":  alike(edit(put("ab"), keep(3)), edit(cut(3)), edit(put("ab")), edit(keep(2), cut(3))),
		"put behind a cut":    alike(edit(keep(3), put("ab")), edit(cut(3)), edit(put("ab")), edit(cut(3), keep(2))),
		"put within a cut":    alike(edit(keep(1), put("ab"), keep(2)), edit(cut(3)), edit(put("ab")), edit(cut(1), keep(2), cut(2))),
		"put and cut, a keep": alike(edit(put("ab"), cut(3)), edit(keep(3)), edit(put("ab"), cut(3)), edit(keep(2))),
		"put and cut, a cut":  alike(edit(put("ab"), cut(3)), edit(cut(3)), edit(put("ab")), edit(keep(2))),
		"cut within a keep":   alike(edit(keep(1), cut(2), keep(1)), edit(keep(4)), edit(keep(1), cut(2), keep(1)), edit(keep(2))),
		"cut within a cut":    alike(edit(keep(1), cut(2), keep(1)), edit(cut(4)), nil, edit(cut(2))),
		"a cut's front":       alike(edit(cut(2), keep(3)), edit(cut(5)), nil, edit(cut(3))),
		"a cut's rear":        alike(edit(keep(3), cut(2)), edit(cut(5)), nil, edit(cut(3))),
		"cuts side by side":   alike(edit(cut(2), keep(2)), edit(keep(2), cut(2)), edit(cut(2)), edit(cut(2))),
		"cuts across":         alike(edit(cut(3), keep(2)), edit(keep(1), cut(3), keep(1)), edit(cut(1), keep(1)), edit(cut(1), keep(1))),
		"puts at two places": alike(
			edit(keep(1), put("ab"), keep(2)), edit(keep(2), put("X"), keep(1)),
			edit(keep(1), put("ab"), keep(3)), edit(keep(4), put("X"), keep(1))),
		"puts at both ends": alike(edit(put("ab"), keep(2)), edit(keep(2), put("X")), edit(put("ab"), keep(3)), edit(keep(4), put("X"))),
		"gone, one put":     alike(edit(put("ab"), keep(1), put("c")), edit(cut(1)), edit(put("abc")), edit(keep(2), cut(1), keep(1))),
		"gone, one cut":     alike(edit(cut(1), keep(1), cut(1)), edit(keep(1), cut(1), keep(1)), edit(cut(2)), edit(cut(1))),
		"gone, one keep":    alike(edit(keep(1), cut(1), keep(1)), edit(keep(1), cut(1), keep(1)), edit(keep(2)), edit(keep(2))),
		"gone, a put behind a cut": alike(
			edit(cut(1), keep(1), put("ab")), edit(keep(1), cut(1)),
			edit(put("ab"), cut(1)), edit(cut(1), keep(2))),
		"gone, a put between cuts": alike(
			edit(cut(1), keep(1), put("ab"), cut(1)), edit(keep(1), cut(1), keep(1)),
			edit(put("ab"), cut(2)), edit(cut(1), keep(2))),
		"parts of parts": alike(
			edit(put("ab"), cut(3), keep(4), put("cd"), keep(2)),
			edit(keep(2), put("XY"), keep(2), cut(2), keep(2), cut(1)),
			edit(put("ab"), cut(2), keep(2), cut(1), keep(2), put("cd"), keep(1)),
			edit(keep(2), put("XY"), keep(1), cut(2), keep(4), cut(1))),
	}
}

// ties are edits that put at one place both.
func ties() map[string]row {
	return map[string]row{
		"puts alone": {
			edit(put("ab")), edit(put("X")),
			pair{edit(put("ab"), keep(1)), edit(keep(2), put("X"))},
			pair{edit(keep(1), put("ab")), edit(put("X"), keep(2))},
		},
		"one text": {
			edit(put("x")), edit(put("x")),
			pair{edit(put("x"), keep(1)), edit(keep(1), put("x"))},
			pair{edit(keep(1), put("x")), edit(put("x"), keep(1))},
		},
		"between keeps": {
			edit(keep(1), put("ab"), keep(2)), edit(keep(1), put("X"), keep(2)),
			pair{edit(keep(1), put("ab"), keep(3)), edit(keep(3), put("X"), keep(2))},
			pair{edit(keep(2), put("ab"), keep(2)), edit(keep(1), put("X"), keep(4))},
		},
		"behind keeps": {
			edit(keep(3), put("ab")), edit(keep(3), put("X")),
			pair{edit(keep(3), put("ab"), keep(1)), edit(keep(5), put("X"))},
			pair{edit(keep(4), put("ab")), edit(keep(3), put("X"), keep(2))},
		},
		"behind a cut and a keep": {
			edit(cut(2), keep(1), put("ab")), edit(keep(3), put("X")),
			pair{edit(cut(2), keep(1), put("ab"), keep(1)), edit(keep(3), put("X"))},
			pair{edit(cut(2), keep(2), put("ab")), edit(keep(1), put("X"), keep(2))},
		},
		"ahead of what both cut": {
			edit(put("ab"), cut(2)), edit(put("X"), cut(2)),
			pair{edit(put("ab"), keep(1)), edit(keep(2), put("X"))},
			pair{edit(keep(1), put("ab")), edit(put("X"), keep(2))},
		},
		"ahead of what a cuts": {
			edit(put("ab"), cut(2)), edit(put("X"), keep(2)),
			pair{edit(put("ab"), keep(1), cut(2)), edit(keep(2), put("X"))},
			pair{edit(keep(1), put("ab"), cut(2)), edit(put("X"), keep(2))},
		},
		"ahead of what b cuts": {
			edit(put("ab"), keep(2)), edit(put("X"), cut(2)),
			pair{edit(put("ab"), keep(1)), edit(keep(2), put("X"), cut(2))},
			pair{edit(keep(1), put("ab")), edit(put("X"), keep(2), cut(2))},
		},
		"at two places": {
			edit(put("a"), keep(1), put("b")), edit(put("X"), keep(1), put("Y")),
			pair{edit(put("a"), keep(2), put("b"), keep(1)), edit(keep(1), put("X"), keep(2), put("Y"))},
			pair{edit(keep(1), put("a"), keep(2), put("b")), edit(put("X"), keep(2), put("Y"), keep(1))},
		},
		"at one of two places": {
			edit(put("a"), keep(1), put("b")), edit(put("X"), cut(1)),
			pair{edit(put("a"), keep(1), put("b")), edit(keep(1), put("X"), cut(1), keep(1))},
			pair{edit(keep(1), put("ab")), edit(put("X"), keep(1), cut(1), keep(1))},
		},
	}
}

// edges are the ends of what may be.
func edges() map[string]row {
	const most, half, third = api.MaxLen, api.MaxLen / 2, api.MaxLen / 3
	text, other := full(most), strings.ToUpper(full(most))
	return map[string]row{
		"no lists":            alike(nil, nil, nil, nil),
		"no pieces":           alike(edit(), edit(), nil, nil),
		"no list, no piece":   alike(nil, edit(), nil, nil),
		"nothing, a put":      alike(nil, edit(put("X")), edit(keep(1)), edit(put("X"))),
		"bytes of no rune":    alike(edit(put("\xff\x00")), nil, edit(put("\xff\x00")), edit(keep(2))),
		"keep the most":       alike(edit(keep(most)), edit(keep(most)), edit(keep(most)), edit(keep(most))),
		"cut the most":        alike(edit(keep(most)), edit(cut(most)), nil, edit(cut(most))),
		"cut the most twice":  alike(edit(cut(most)), edit(cut(most)), nil, nil),
		"put the most":        alike(edit(put(text)), nil, edit(put(text)), edit(keep(most))),
		"the most for a cut":  alike(edit(cut(most)), edit(put(text), cut(most)), edit(keep(most)), edit(put(text))),
		"cuts by turns":       alike(times(most, cut(1), keep(1)), times(most, keep(1), cut(1)), edit(cut(half)), edit(cut(half))),
		"all between is gone": alike(times(most, put("a"), keep(1)), edit(cut(half)), edit(put(strings.Repeat("a", half))), times(most, keep(1), cut(1))),
		"room by cuts": alike(
			edit(put(text[1:]), cut(most)), edit(keep(most-1), put("X"), cut(1)),
			edit(put(text[1:]), cut(most-1), keep(1)), edit(keep(most-1), put("X"))),
		"a letter of halves": {
			edit(put("\xc3")), edit(put("\xa9")),
			pair{edit(put("\xc3"), keep(1)), edit(keep(1), put("\xa9"))},
			pair{edit(keep(1), put("\xc3")), edit(put("\xa9"), keep(1))},
		},
		"the most together": {
			edit(put(text[:half])), edit(put(other[half:])),
			pair{edit(put(text[:half]), keep(half)), edit(keep(half), put(other[half:]))},
			pair{edit(keep(half), put(text[:half])), edit(put(other[half:]), keep(half))},
		},
		"the most with keeps": {
			edit(keep(most-2), put("a")), edit(keep(most-2), put("X")),
			pair{edit(keep(most-2), put("a"), keep(1)), edit(keep(most-1), put("X"))},
			pair{edit(keep(most-1), put("a")), edit(keep(most-2), put("X"), keep(1))},
		},
		"the most pieces": alike(
			times(3*third, put("a"), cut(2), keep(1))[1:], edit(keep(1), put("X"), keep(3*third-1)),
			append(edit(cut(1), keep(1), cut(1), keep(1)), times(3*third-3, put("a"), cut(2), keep(1))...),
			edit(put("X"), keep(2*third-1))),
	}
}

// right are all rows that have an answer.
func right() map[string]row {
	all := edges()
	for name, r := range apart() {
		all["apart: "+name] = r
	}
	for name, r := range ties() {
		all["tie: "+name] = r
	}
	return all
}

// wrong are edits that may not be.
func wrong() map[string][]api.Comp {
	return map[string][]api.Comp{
		"keep nothing":         edit(keep(0)),
		"put nothing":          edit(put("")),
		"cut nothing":          edit(cut(0)),
		"nothing ahead":        edit(put(""), keep(3)),
		"nothing between":      edit(keep(1), put(""), cut(2)),
		"nothing behind":       edit(keep(3), cut(0)),
		"two keeps":            edit(keep(1), keep(2)),
		"two cuts":             edit(cut(1), cut(2)),
		"two puts":             edit(put("x"), put("y"), keep(3)),
		"cut, put":             edit(cut(3), put("x")),
		"keep, cut, put, keep": edit(keep(1), cut(1), put("x"), keep(1)),
		"a kind above all":     edit(api.Comp{Kind: 3, N: 3}),
		"a kind below all":     edit(api.Comp{Kind: -1, N: 3}),
		"the greatest kind":    edit(keep(3), api.Comp{Kind: math.MaxInt, Text: "x"}),
		"the least kind":       edit(api.Comp{Kind: math.MinInt}, keep(3)),
		"keep below 0":         edit(keep(-1)),
		"cut below 0":          edit(cut(-1)),
		"below 0 made good":    edit(keep(4), cut(-1)),
		"keep the least":       edit(keep(math.MinInt)),
		"cut the greatest":     edit(cut(math.MaxInt)),
		"keeps wrap round":     edit(keep(math.MaxInt), put("x"), keep(math.MaxInt), put("x"), keep(2)),
		"keep with a Text":     edit(api.Comp{Kind: api.CompKeep, N: 3, Text: "x"}),
		"cut with a Text":      edit(api.Comp{Kind: api.CompCut, N: 3, Text: "x"}),
		"put with an N":        edit(api.Comp{Kind: api.CompPut, N: 3, Text: "x"}),
		"put too much":         edit(put(full(api.MaxLen + 1))),
		"keep too much":        edit(keep(api.MaxLen + 1)),
		"cut too much":         edit(cut(api.MaxLen + 1)),
		"From above":           edit(keep(api.MaxLen), cut(1)),
		"To above":             edit(put(full(api.MaxLen)), keep(1)),
		"a piece too many":     times(api.MaxLen+1, put("A"), cut(1), keep(1)),
	}
}

// brief is what a message shows of an edit, which may be a long one.
func brief(cs []api.Comp) string {
	s := fmt.Sprint(cs)
	if len(s) > 200 {
		s = s[:200] + " .."
	}
	return s
}

// answers: does Transform answer this pair?
func answers(t *testing.T, name string, a, b []api.Comp, first bool, want pair) {
	t.Helper()
	p, q, e := transform.Transform(a, b, first)
	if !slices.Equal(p, want.p) || !slices.Equal(q, want.q) || e != api.OK {
		t.Errorf("%s, first %v: %s, %s, %d, want %s, %s", name, first, brief(p), brief(q), e, brief(want.p), brief(want.q))
	}
}

// answersBothWays: does Transform answer as a row says, and the same with the edits changed about?
func answersBothWays(t *testing.T, name string, r row) {
	t.Helper()
	answers(t, name, r.a, r.b, true, r.first)
	answers(t, name, r.a, r.b, false, r.late)
	answers(t, name+", changed about", r.b, r.a, false, pair{r.first.q, r.first.p})
	answers(t, name+", changed about", r.b, r.a, true, pair{r.late.q, r.late.p})
}

// refused: does Transform refuse these two, as a and b and as b and a, with empty lists beside the error?
func refused(t *testing.T, name string, a, b []api.Comp) {
	t.Helper()
	for i, given := range [][2][]api.Comp{{a, b}, {b, a}} {
		for _, first := range []bool{true, false} {
			p, q, e := transform.Transform(given[0], given[1], first)
			if len(p) != 0 || len(q) != 0 || e != api.ErrTransformForm {
				t.Errorf("%s, order %d, first %v: %d pieces, %d pieces, %d", name, i, first, len(p), len(q), e)
			}
		}
	}
}

// P5.1

func TestTransformOfPutsApart(t *testing.T) {
	for name, r := range apart() {
		answersBothWays(t, name, r)
	}
}

func TestTransformOfPutsAtOnePlace(t *testing.T) {
	for name, r := range ties() {
		answersBothWays(t, name, r)
	}
}

func TestTransformAtTheEdges(t *testing.T) {
	for name, r := range edges() {
		answersBothWays(t, name, r)
	}
}

// Every two short edits: those of one From have the model's answer, and the others none.
func TestTransformOfEveryTwoShortEdits(t *testing.T) {
	others := short(4, "X", "YZ")
	for _, a := range short(4, "a", "bc") {
		from, _ := sums(a)
		for _, b := range others {
			other, _ := sums(b)
			for _, first := range []bool{true, false} {
				var want pair
				wantE := api.ErrTransformForm
				if from == other {
					want, wantE = model(a, b, first), api.OK
				}
				p, q, e := transform.Transform(a, b, first)
				if !slices.Equal(p, want.p) || !slices.Equal(q, want.q) || e != wantE || !comp.May(p) || !comp.May(q) {
					t.Fatalf("%v, %v, %v: %v, %v, %d, want %v, %d", a, b, first, p, q, e, want, wantE)
				}
			}
		}
	}
}

// An edit stays as it is behind one that keeps all, and leaves that one a keep of all that it leaves.
func TestTransformWithAnEditThatKeepsAll(t *testing.T) {
	tried := short(5, "a", "bc")
	for _, r := range right() {
		tried = append(tried, r.a, r.b)
	}
	for _, cs := range tried {
		from, to := sums(cs)
		answersBothWays(t, "a keep of all", alike(cs, whole(from), cs, whole(to)))
	}
}

func TestTransformRefusesWhatMayNotBe(t *testing.T) {
	for name, cs := range wrong() {
		others := [][]api.Comp{nil, cs, edit(keep(1)), edit(keep(3)), edit(put("x")), edit(cut(1)), edit(keep(api.MaxLen))}
		if from, _ := sums(cs); from > 0 && from <= api.MaxLen {
			others = append(others, edit(keep(from)), edit(cut(from)), edit(put("x"), cut(from)))
		}
		for _, other := range others {
			refused(t, name, cs, other)
		}
	}
}

// Both must take a text of one length.
func TestTransformRefusesUnlikeFroms(t *testing.T) {
	for name, r := range right() {
		from, _ := sums(r.a)
		for _, cs := range [][]api.Comp{r.a, r.b} {
			refused(t, name+": one more", cs, whole(from+1))
			refused(t, name+": a cut of one more", cs, edit(put("x"), cut(from+1)))
			if from == 0 {
				continue
			}
			refused(t, name+": one less", cs, whole(from-1))
			refused(t, name+": none", cs, edit(put("x")))
			refused(t, name+": no piece", cs, nil)
		}
	}
}

// It is the Froms that are held against each other, no other two of the four.
func TestTransformAsksFroms(t *testing.T) {
	longer, shorter := edit(keep(1), put("xyz")), edit(keep(1), cut(3))
	refused(t, "To, From", longer, shorter)
	refused(t, "To, To", longer, edit(keep(4)))
	refused(t, "From, To", longer, edit(keep(1), cut(1)))
	answersBothWays(t, "From, From", alike(longer, edit(cut(1)), edit(put("xyz")), edit(cut(1), keep(3))))
}

// Two edits that may be can lead to longer texts, or to more pieces, than may be.
func TestTransformRefusesLongResults(t *testing.T) {
	const most, half, third = api.MaxLen, api.MaxLen / 2, api.MaxLen / 3
	text := full(most)
	for name, r := range map[string]struct {
		a, b       []api.Comp
		to, pieces int
	}{
		"one byte too many":             {edit(put(text)), edit(put("X")), most + 1, 2},
		"one byte too many, halves":     {edit(put(text[:half])), edit(put(text[:half+1])), most + 1, 2},
		"one byte too many, keeps":      {edit(keep(most-1), put("a")), edit(keep(most-1), put("X")), most + 1, 3},
		"one byte too many, two ends":   {edit(put("a"), keep(most-1)), edit(keep(most-1), put("X")), most + 1, 2},
		"one byte too many, cuts":       {edit(put(text), cut(most)), edit(keep(most-1), put("X"), cut(1)), most + 1, 3},
		"as many bytes as there can be": {edit(put(text)), edit(put(text)), 2 * most, 2},
		"one piece too many":            {times(3*third, put("a"), cut(2), keep(1)), edit(keep(1), put("X"), keep(3*third-1)), 2*third + 1, most + 1},
	} {
		from, _ := sums(r.a)
		other, _ := sums(r.b)
		made := model(r.a, r.b, true)
		_, to := sums(made.p)
		if !comp.May(r.a) || !comp.May(r.b) || from != other || to != r.to || len(made.p) != r.pieces {
			t.Errorf("%s: %d, %d to %d: %d pieces, want %d, %d", name, from, other, to, len(made.p), r.to, r.pieces)
		}
		refused(t, name, r.a, r.b)
	}
}

// P5.2

// square: do both roads lead to one text, as long as both results say?
func square(t *testing.T, a, b []api.Comp, first bool) {
	t.Helper()
	from, _ := sums(a)
	s := full(from)
	p, q, e := transform.Transform(a, b, first)
	if e != api.OK {
		t.Fatalf("%s, %s, %v: %d", brief(a), brief(b), first, e)
	}
	u, e := apply.Apply(s, a)
	v, f := apply.Apply(s, b)
	x, g := apply.Apply(u, q)
	y, h := apply.Apply(v, p)
	if x != y || e != api.OK || f != api.OK || g != api.OK || h != api.OK {
		t.Fatalf("%s, %s, %v: %.200q, %.200q; %d, %d, %d, %d", brief(a), brief(b), first, x, y, e, f, g, h)
	}
}

func TestBothRoadsLeadToOneText(t *testing.T) {
	for _, r := range right() {
		for _, first := range []bool{true, false} {
			square(t, r.a, r.b, first)
			square(t, r.b, r.a, first)
		}
	}
}

func TestBothRoadsOfEveryTwoShortEdits(t *testing.T) {
	byFrom := map[int][][]api.Comp{}
	for _, cs := range short(4, "X", "YZ") {
		from, _ := sums(cs)
		byFrom[from] = append(byFrom[from], cs)
	}
	for _, a := range short(4, "a", "bc") {
		from, _ := sums(a)
		for _, b := range byFrom[from] {
			square(t, a, b, true)
			square(t, a, b, false)
		}
	}
}

// At one place the text of the one that is first stands ahead, whichever road is gone.
func TestFirstStandsAhead(t *testing.T) {
	a, b := edit(keep(1), put("AA"), keep(1)), edit(keep(1), put("B"), keep(1))
	for first, want := range map[bool]string{true: "xAABy", false: "xBAAy"} {
		p, q, _ := transform.Transform(a, b, first)
		byA, _ := apply.Apply("xAAy", q)
		byB, _ := apply.Apply("xBy", p)
		if byA != want || byB != want {
			t.Errorf("first %v: %q, %q, want %q", first, byA, byB, want)
		}
	}
}

// The rules of all calls.

// mark stands in the spare room behind an edit.
var mark = api.Comp{Kind: 77, N: 77, Text: "spare"}

func TestArgumentsStay(t *testing.T) {
	tried := right()
	for name, cs := range wrong() {
		tried["as a: "+name] = row{a: cs, b: edit(keep(3))}
		tried["as b: "+name] = row{a: edit(put("abc"), cut(3)), b: cs}
	}
	for name, r := range tried {
		a, b := append(slices.Clone(r.a), mark, mark), append(slices.Clone(r.b), mark, mark)
		oldA, oldB := slices.Clone(a), slices.Clone(b)
		transform.Transform(a[:len(r.a)], b[:len(r.b)], true)
		transform.Transform(a[:len(r.a)], b[:len(r.b)], false)
		if !slices.Equal(a, oldA) || !slices.Equal(b, oldB) {
			t.Errorf("%s: changed", name)
		}
	}
}

// One list may be handed in as both edits.
func TestTransformOfAnEditAndItself(t *testing.T) {
	cs := edit(keep(1), put("ab"), cut(2), keep(1))
	old := slices.Clone(cs)
	ahead, later := edit(keep(1), put("ab"), keep(3)), edit(keep(3), put("ab"), keep(1))
	answersBothWays(t, "itself", row{cs, cs, pair{ahead, later}, pair{later, ahead}})
	if !slices.Equal(cs, old) {
		t.Errorf("%v, want %v", cs, old)
	}
}

// texts are what an edit puts.
func texts(cs []api.Comp) []string {
	var all []string
	for _, c := range cs {
		if c.Text != "" {
			all = append(all, c.Text)
		}
	}
	return all
}

// within: does a text lie, be it in part, in another one's memory?
func within(s, in string) bool {
	a, b := uintptr(unsafe.Pointer(unsafe.StringData(s))), uintptr(unsafe.Pointer(unsafe.StringData(in)))
	return a < b+uintptr(len(in)) && b < a+uintptr(len(s))
}

// sharesTexts: does a text of one edit lie in the memory of one of another edit?
func sharesTexts(a, b []api.Comp) bool {
	others := texts(b)
	return slices.ContainsFunc(texts(a), func(s string) bool {
		return slices.ContainsFunc(others, func(in string) bool { return within(s, in) })
	})
}

// The lists of an answer share nothing with what was handed in, with each other, or with another answer.
func TestAnswersAreNewMemory(t *testing.T) {
	for name, r := range right() {
		for _, first := range []bool{true, false} {
			p, q, _ := transform.Transform(r.a, r.b, first)
			p2, q2, _ := transform.Transform(r.a, r.b, first)
			lists := [][]api.Comp{r.a, r.b, p, q, p2, q2}
			var olds [][]api.Comp
			for _, cs := range lists {
				olds = append(olds, slices.Clone(cs))
			}
			for i := 2; i < len(lists); i++ {
				for j := range i {
					if sharesTexts(lists[i], lists[j]) {
						t.Errorf("%s, first %v: texts of %d and %d share memory", name, first, i, j)
					}
				}
			}
			for i := len(lists) - 1; i >= 2; i-- {
				copy(lists[i][:cap(lists[i])], times(cap(lists[i]), mark))
				for j := range i {
					if !slices.Equal(lists[j], olds[j]) {
						t.Fatalf("%s, first %v: lists %d and %d share memory", name, first, i, j)
					}
				}
			}
		}
	}
}

func TestCallsAtOneTime(t *testing.T) {
	r := ties()["at two places"]
	var fit atomic.Int64
	var group sync.WaitGroup
	for range 8 {
		group.Go(func() {
			for range 100 {
				p, q, e := transform.Transform(r.a, r.b, true)
				x, y, f := transform.Transform(r.a, edit(keep(2)), true)
				ok := slices.Equal(p, r.first.p) && slices.Equal(q, r.first.q) && e == api.OK
				if ok && len(x)+len(y) == 0 && f == api.ErrTransformForm {
					fit.Add(1)
				}
			}
		})
	}
	group.Wait()
	if fit.Load() != 800 {
		t.Errorf("%d of 800 calls were right", fit.Load())
	}
}
