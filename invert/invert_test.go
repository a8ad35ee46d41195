package invert_test

import (
	"fmt"
	"math"
	"slices"
	"strings"
	"sync"
	"sync/atomic"
	"testing"
	"unsafe"

	"minuet/api"
	"minuet/apply"
	"minuet/comp"
	"minuet/compose"
	"minuet/invert"
)

func keep(n int) api.Comp { return api.Comp{Kind: api.CompKeep, N: n} }

func cut(n int) api.Comp { return api.Comp{Kind: api.CompCut, N: n} }

func put(s string) api.Comp { return api.Comp{Kind: api.CompPut, Text: s} }

// edit is a list of pieces.
func edit(cs ...api.Comp) []api.Comp { return cs }

// times is pieces, again and again, n pieces in all.
func times(n int, cs ...api.Comp) []api.Comp {
	all := make([]api.Comp, n)
	for i := range all {
		all[i] = cs[i%len(cs)]
	}
	return all
}

// full is a text of n bytes in which neighbors differ.
func full(n int) string {
	b := make([]byte, n)
	for i := range b {
		b[i] = 'a' + byte(i*7%26)
	}
	return string(b)
}

// every is a text of all bytes, those that are no letters too.
func every() string {
	b := make([]byte, 256)
	for i := range b {
		b[i] = byte(i)
	}
	return string(b)
}

// from is how long a text an edit takes, by the document's words.
func from(cs []api.Comp) int {
	n := 0
	for _, c := range cs {
		if c.Kind != api.CompPut {
			n += c.N
		}
	}
	return n
}

// model is the edit back: between what is kept, all that was cut is put, and as much is cut as was put.
func model(s string, cs []api.Comp) []api.Comp {
	var told []api.Comp
	lost, made := "", 0
	tell := func() {
		if lost != "" {
			told = append(told, put(lost))
		}
		if made > 0 {
			told = append(told, cut(made))
		}
		lost, made = "", 0
	}
	for _, c := range cs {
		switch c.Kind {
		case api.CompKeep:
			tell()
			told = append(told, c)
		case api.CompCut:
			lost += s[:c.N]
		case api.CompPut:
			made += len(c.Text)
		}
		s = s[c.N:]
	}
	tell()
	return told
}

// short is every edit of at most n short pieces that may be.
func short(n int) [][]api.Comp {
	pieces := edit(keep(1), keep(2), keep(3), cut(1), cut(2), cut(3), put("x"), put("yz"))
	var found [][]api.Comp
	var grow func(cs []api.Comp)
	grow = func(cs []api.Comp) {
		found = append(found, cs)
		if len(cs) == n {
			return
		}
		for _, c := range pieces {
			if more := append(slices.Clone(cs), c); comp.May(more) {
				grow(more)
			}
		}
	}
	grow(nil)
	return found
}

// row is a text, an edit of it, and the edit back.
type row struct {
	s    string
	cs   []api.Comp
	want []api.Comp
}

// ordinary are edits as they come.
func ordinary() map[string]row {
	return map[string]row{
		"put at the start":     {"abc", edit(put("xy"), keep(3)), edit(cut(2), keep(3))},
		"put within":           {"abc", edit(keep(1), put("xy"), keep(2)), edit(keep(1), cut(2), keep(2))},
		"put at the end":       {"abc", edit(keep(3), put("xy")), edit(keep(3), cut(2))},
		"cut at the start":     {"abcd", edit(cut(3), keep(1)), edit(put("abc"), keep(1))},
		"cut within":           {"abcd", edit(keep(1), cut(2), keep(1)), edit(keep(1), put("bc"), keep(1))},
		"cut at the end":       {"abcd", edit(keep(1), cut(3)), edit(keep(1), put("bcd"))},
		"put, cut":             {"abcd", edit(put("xy"), cut(4)), edit(put("abcd"), cut(2))},
		"put, cut, keep":       {"abcd", edit(put("xyz"), cut(2), keep(2)), edit(put("ab"), cut(3), keep(2))},
		"keep, put, cut":       {"abcd", edit(keep(2), put("x"), cut(2)), edit(keep(2), put("cd"), cut(1))},
		"keep, put, cut, keep": {"abcd", edit(keep(1), put("xyz"), cut(2), keep(1)), edit(keep(1), put("bc"), cut(3), keep(1))},
		"cut, keep, cut":       {"abcd", edit(cut(1), keep(1), cut(2)), edit(put("a"), keep(1), put("cd"))},
		"put, keep, put":       {"abcd", edit(put("x"), keep(4), put("yz")), edit(cut(1), keep(4), cut(2))},
		"cut, keep, put":       {"abcd", edit(cut(3), keep(1), put("xy")), edit(put("abc"), keep(1), cut(2))},
		"put, keep, cut":       {"abcd", edit(put("xy"), keep(1), cut(3)), edit(cut(2), keep(1), put("bcd"))},
		"put, cut at two places": {
			"abcdef",
			edit(keep(1), put("x"), cut(2), keep(1), put("yz"), cut(1), keep(1)),
			edit(keep(1), put("bc"), cut(1), keep(1), put("e"), cut(2), keep(1)),
		},
		"all kinds by turns": {
			"abcdefg",
			edit(cut(1), keep(1), cut(2), keep(1), put("x"), keep(1), put("yz"), cut(1)),
			edit(put("a"), keep(1), put("cd"), keep(1), cut(1), keep(1), put("g"), cut(2)),
		},
		"lines":           {"one\ntwo\n", edit(keep(4), put("1.5\n2\n"), cut(4)), edit(keep(4), put("two\n"), cut(6))},
		"put what is cut": {"aa", edit(keep(1), put("a"), cut(1)), edit(keep(1), put("a"), cut(1))},
	}
}

// edges are the ends of what may be.
func edges() map[string]row {
	const n = api.MaxLen
	most, bytes := full(n), every()
	by := times(n, put("A"), cut(1), keep(1))
	return map[string]row{
		"no list":               {"", nil, nil},
		"no piece":              {"", edit(), nil},
		"keep one":              {"a", edit(keep(1)), edit(keep(1))},
		"cut one":               {"a", edit(cut(1)), edit(put("a"))},
		"put one":               {"", edit(put("a")), edit(cut(1))},
		"keep all":              {"abc", edit(keep(3)), edit(keep(3))},
		"cut all":               {"abc", edit(cut(3)), edit(put("abc"))},
		"put alone":             {"", edit(put("abc")), edit(cut(3))},
		"one for another":       {"abc", edit(put("xy"), cut(3)), edit(put("abc"), cut(2))},
		"keep the most":         {most, edit(keep(n)), edit(keep(n))},
		"cut the most":          {most, edit(cut(n)), edit(put(most))},
		"put the most":          {"", edit(put(most)), edit(cut(n))},
		"the most for the most": {most, edit(put(strings.ToUpper(most)), cut(n)), edit(put(most), cut(n))},
		"the most for one":      {"x", edit(put(most), cut(1)), edit(put("x"), cut(n))},
		"one for the most":      {most, edit(put("x"), cut(n)), edit(put(most), cut(1))},
		"grow to the most":      {most[1:], edit(put("x"), keep(n-1)), edit(cut(1), keep(n-1))},
		"grow to it behind":     {most[1:], edit(keep(n-1), put("x")), edit(keep(n-1), cut(1))},
		"all but one":           {most, edit(cut(n-1), keep(1)), edit(put(most[:n-1]), keep(1))},
		"one":                   {most, edit(keep(n-1), cut(1)), edit(keep(n-1), put(most[n-1:]))},
		"the most pieces, cut":  {most, times(n, keep(1), cut(1)), model(most, times(n, keep(1), cut(1)))},
		"the most pieces, put":  {most[:n/2], times(n, put("A"), keep(1)), times(n, cut(1), keep(1))},
		"put behind keeps":      {most[:n/2], times(n, keep(1), put("A")), times(n, keep(1), cut(1))},
		"the most of all kinds": {most[:from(by)], by, model(most[:from(by)], by)},
		"cut any bytes":         {bytes, edit(keep(10), cut(240), keep(6)), edit(keep(10), put(bytes[10:250]), keep(6))},
		"put any bytes":         {"", edit(put(bytes)), edit(cut(256))},
		"any for any bytes":     {bytes, edit(put(bytes), cut(256)), edit(put(bytes), cut(256))},
		"bytes of 0":            {"\x00\x00", edit(keep(1), put("\x00"), cut(1)), edit(keep(1), put("\x00"), cut(1))},
		"half of a letter":      {"é", edit(cut(1), keep(1)), edit(put("\xc3"), keep(1))},
		"in a letter's middle":  {"é", edit(keep(1), put("é"), cut(1)), edit(keep(1), put("\xa9"), cut(2))},
	}
}

// right are all edits that may be, but for the short ones.
func right() map[string]row {
	all := edges()
	for name, r := range ordinary() {
		all["ordinary: "+name] = r
	}
	return all
}

// wrong are edits that may not be; each text is as long as the edit would take, where there is such a length.
func wrong() map[string]row {
	most := full(api.MaxLen)
	return map[string]row{
		"keep nothing":         {"", edit(keep(0)), nil},
		"put nothing":          {"", edit(put("")), nil},
		"cut nothing":          {"", edit(cut(0)), nil},
		"nothing ahead":        {"abc", edit(put(""), keep(3)), nil},
		"nothing between":      {"abc", edit(keep(1), put(""), cut(2)), nil},
		"nothing behind":       {"abc", edit(keep(3), cut(0)), nil},
		"two keeps":            {"abc", edit(keep(1), keep(2)), nil},
		"two cuts":             {"abc", edit(cut(1), cut(2)), nil},
		"two puts":             {"abc", edit(put("x"), put("y"), keep(3)), nil},
		"cut, put":             {"abc", edit(cut(3), put("x")), nil},
		"keep, cut, put, keep": {"abc", edit(keep(1), cut(1), put("x"), keep(1)), nil},
		"a kind above all":     {"abc", edit(api.Comp{Kind: 3, N: 3}), nil},
		"a kind below all":     {"abc", edit(api.Comp{Kind: -1, N: 3}), nil},
		"the greatest kind":    {"abc", edit(keep(3), api.Comp{Kind: math.MaxInt, Text: "x"}), nil},
		"the least kind":       {"abc", edit(api.Comp{Kind: math.MinInt}, keep(3)), nil},
		"keep below 0":         {"", edit(keep(-1)), nil},
		"cut below 0":          {"", edit(cut(-1)), nil},
		"below 0 made good":    {"abc", edit(keep(4), cut(-1)), nil},
		"made good by one":     {"abc", edit(cut(-1), keep(4)), nil},
		"keep the least":       {"", edit(keep(math.MinInt)), nil},
		"cut the greatest":     {"abc", edit(cut(math.MaxInt)), nil},
		"keeps wrap round":     {"", edit(keep(math.MaxInt), put("x"), keep(math.MaxInt), put("x"), keep(2)), nil},
		"keep with a Text":     {"abc", edit(api.Comp{Kind: api.CompKeep, N: 3, Text: "x"}), nil},
		"cut with a Text":      {"abc", edit(api.Comp{Kind: api.CompCut, N: 3, Text: "x"}), nil},
		"put with an N":        {"abc", edit(api.Comp{Kind: api.CompPut, N: 3, Text: "x"}), nil},
		"put with N, keep":     {"abc", edit(api.Comp{Kind: api.CompPut, N: 1, Text: "x"}, keep(2)), nil},
		"put with N below 0":   {"abc", edit(api.Comp{Kind: api.CompPut, N: -1, Text: "x"}, keep(4)), nil},
		"put too much":         {"", edit(put(most + "x")), nil},
		"keep too much":        {most + "x", edit(keep(api.MaxLen + 1)), nil},
		"cut too much":         {most + "x", edit(cut(api.MaxLen + 1)), nil},
		"From above":           {most + "x", edit(keep(api.MaxLen), cut(1)), nil},
		"From above by keep":   {most + "x", edit(cut(api.MaxLen), keep(1)), nil},
		"To above":             {"a", edit(put(most), keep(1)), nil},
		"To above at the end":  {most, edit(keep(api.MaxLen), put("x")), nil},
		"a piece too many":     {most[:api.MaxLen/2], times(api.MaxLen+1, put("A"), keep(1)), nil},
	}
}

// brief is what a message shows of an edit, which may be a long one.
func brief(cs []api.Comp) string {
	s := fmt.Sprint(cs)
	if len(s) > 200 {
		s = s[:200] + " .."
	}
	return s
}

// answers: does Invert make just this edit?
func answers(t *testing.T, s string, cs, want []api.Comp) {
	t.Helper()
	if got, e := invert.Invert(s, cs); !slices.Equal(got, want) || e != api.OK {
		t.Errorf("%s: %s, %d, want %s", brief(cs), brief(got), e, brief(want))
	}
}

// refused: does Invert refuse, with no list beside the error?
func refused(t *testing.T, s string, cs []api.Comp) {
	t.Helper()
	if got, e := invert.Invert(s, cs); got != nil || e != api.ErrInvertForm {
		t.Errorf("%d bytes, %s: %s, %d", len(s), brief(cs), brief(got), e)
	}
}

// leadsBack: does what Invert makes lead back to the text, may it be, and is the edit itself its way back?
func leadsBack(t *testing.T, s string, cs []api.Comp) {
	t.Helper()
	u, _ := apply.Apply(s, cs)
	back, e := invert.Invert(s, cs)
	if !comp.May(back) || e != api.OK {
		t.Fatalf("%s: %s, %d", brief(cs), brief(back), e)
	}
	if got, e := apply.Apply(u, back); got != s || e != api.OK {
		t.Errorf("%s: by %s to %q, %d, not %q", brief(cs), brief(back), got, e, s)
	}
	answers(t, u, back, cs)
}

// P7.1

func TestInvert(t *testing.T) {
	for name, r := range ordinary() {
		t.Run(name, func(t *testing.T) { answers(t, r.s, r.cs, r.want) })
	}
}

func TestInvertAtTheEdges(t *testing.T) {
	for name, r := range edges() {
		t.Run(name, func(t *testing.T) { answers(t, r.s, r.cs, r.want) })
	}
}

func TestInvertLeadsBack(t *testing.T) {
	for name, r := range right() {
		t.Run(name, func(t *testing.T) { leadsBack(t, r.s, r.cs) })
	}
}

// Every short edit has the way back that the model tells, and no text of another length has one.
func TestInvertOfEveryShortEdit(t *testing.T) {
	for _, cs := range short(5) {
		s := full(from(cs))
		answers(t, s, cs, model(s, cs))
		leadsBack(t, s, cs)
		refused(t, s+"x", cs)
		if s != "" {
			refused(t, s[1:], cs)
		}
		if t.Failed() {
			t.FailNow()
		}
	}
}

// What is cut and put back is told as cut and as put, even if the bytes are the same: only what was kept is kept.
func TestInvertKeepsNoMoreThanTheEdit(t *testing.T) {
	answers(t, "abab", edit(put("abab"), cut(4)), edit(put("abab"), cut(4)))
	answers(t, "aaaa", edit(cut(1), keep(3)), edit(put("a"), keep(3)))
	answers(t, "aaaa", edit(keep(1), cut(1), keep(2)), edit(keep(1), put("a"), keep(2)))
	answers(t, "aaaa", edit(keep(3), cut(1)), edit(keep(3), put("a")))
}

// An edit and the one back, as one edit, keep what the edit keeps, and put again the rest.
func TestInvertBehindTheEdit(t *testing.T) {
	for _, cs := range short(4) {
		s := full(from(cs))
		back, _ := invert.Invert(s, cs)
		both, e := compose.Compose(cs, back)
		if got, f := apply.Apply(s, both); got != s || e != api.OK || f != api.OK {
			t.Fatalf("%v, %v: %v: %q, not %q; %d, %d", cs, back, both, got, s, e, f)
		}
	}
}

// A row of edits is undone by the ways back, the last one first.
func TestInvertUndoesARow(t *testing.T) {
	steps := [][]api.Comp{
		edit(put("one two")),
		edit(keep(4), put("three"), cut(3)),
		edit(cut(4), keep(5), put(" four")),
		edit(cut(10)),
	}
	text := ""
	var texts []string
	var backs [][]api.Comp
	for _, cs := range steps {
		back, e := invert.Invert(text, cs)
		if e != api.OK {
			t.Fatalf("%q, %v: %d", text, cs, e)
		}
		texts, backs = append(texts, text), append(backs, back)
		text, _ = apply.Apply(text, cs)
	}
	for i := len(steps) - 1; i >= 0; i-- {
		text, _ = apply.Apply(text, backs[i])
		if text != texts[i] {
			t.Fatalf("%v: %q, not %q", backs[i], text, texts[i])
		}
	}
}

func TestInvertRefusesWhatMayNotBe(t *testing.T) {
	for name, r := range wrong() {
		t.Run(name, func(t *testing.T) {
			for _, s := range []string{r.s, "", "a", "abc", full(api.MaxLen)} {
				refused(t, s, r.cs)
			}
		})
	}
}

// The text must have just the length that the edit takes: not one more or less, and not far more or less.
func TestInvertRefusesOtherLengths(t *testing.T) {
	for name, r := range right() {
		t.Run(name, func(t *testing.T) {
			others := []string{r.s + "x", "x" + r.s, r.s + "\x00", r.s + full(api.MaxLen), full(1 << 20)}
			if r.s != "" {
				others = append(others, r.s[1:], r.s[:len(r.s)-1], "")
			}
			for _, s := range others {
				refused(t, s, r.cs)
			}
		})
	}
}

// A text of To's length is no text of From's.
func TestInvertAsksFromNotTo(t *testing.T) {
	cs := edit(keep(1), put("xyz"), cut(1))
	refused(t, "abcd", cs)
	answers(t, "ab", cs, edit(keep(1), put("b"), cut(3)))
}

// It refuses just what layer 3 refuses.
func TestInvertRefusesAsApplyDoes(t *testing.T) {
	tried := wrong()
	for name, r := range right() {
		tried["right: "+name] = r
	}
	for name, r := range tried {
		for _, s := range []string{r.s, "", "a", "abc", full(api.MaxLen - 1), full(api.MaxLen)} {
			_, e := apply.Apply(s, r.cs)
			if _, f := invert.Invert(s, r.cs); (e == api.OK) != (f == api.OK) {
				t.Errorf("%s: %d bytes: layer 3 says %d, layer 7 %d", name, len(s), e, f)
			}
		}
	}
}

// The rules of all calls.

// mark stands in the spare room behind an edit.
var mark = api.Comp{Kind: 77, N: 77, Text: "spare"}

func TestArgumentsStay(t *testing.T) {
	tried := wrong()
	for name, r := range right() {
		tried["right: "+name] = r
	}
	for name, r := range tried {
		room := append(slices.Clone(r.cs), mark, mark)
		old, s := slices.Clone(room), strings.Clone(r.s)
		back, _ := invert.Invert(s, room[:len(r.cs)])
		invert.Invert(s+"x", room[:len(r.cs)])
		for i := range back {
			back[i] = mark
		}
		_ = append(back, mark)
		if !slices.Equal(room, old) || s != r.s {
			t.Errorf("%s: changed", name)
		}
	}
}

// What stands in the spare room is no piece of the edit.
func TestSpareRoomIsNotRead(t *testing.T) {
	room := edit(keep(2), put("xy"), keep(3), mark)
	answers(t, "ab", room[:1], edit(keep(2)))
	answers(t, "ab", room[:2], edit(keep(2), cut(2)))
	answers(t, "", room[:0], nil)
	refused(t, "abcde", room[:2])
}

// within: does a text lie, be it in part, in another one's memory?
func within(s, in string) bool {
	if s == "" || in == "" {
		return false
	}
	a, b := uintptr(unsafe.Pointer(unsafe.StringData(s))), uintptr(unsafe.Pointer(unsafe.StringData(in)))
	return a < b+uintptr(len(in)) && b < a+uintptr(len(s))
}

// shares: does a text of an edit lie in a text of another one?
func shares(a, b []api.Comp) bool {
	for _, c := range a {
		for _, d := range b {
			if within(c.Text, d.Text) {
				return true
			}
		}
	}
	return false
}

func TestAnswersAreNewMemory(t *testing.T) {
	for name, r := range right() {
		got, _ := invert.Invert(r.s, r.cs)
		again, _ := invert.Invert(r.s, r.cs)
		if len(got) > 100 {
			got, again = got[:100], again[:100]
		}
		if shares(got, edit(put(r.s))) || shares(got, r.cs) || shares(got, again) {
			t.Errorf("%s: shares memory", name)
		}
		if len(got) > 0 && (&got[0] == &again[0] || &got[0] == &r.cs[0]) {
			t.Errorf("%s: one list for two", name)
		}
	}
}

// A list that was answered is its caller's own: a later call tells the same.
func TestAnswersStay(t *testing.T) {
	s, cs := "abcd", edit(keep(1), put("xyz"), cut(2), keep(1))
	first, _ := invert.Invert(s, cs)
	for i := range first {
		first[i] = mark
	}
	answers(t, s, cs, edit(keep(1), put("bc"), cut(3), keep(1)))
}

func TestCallsAtOneTime(t *testing.T) {
	s, cs := "abcd", edit(keep(1), put("xyz"), cut(2), keep(1))
	want := edit(keep(1), put("bc"), cut(3), keep(1))
	var right atomic.Int64
	var group sync.WaitGroup
	for range 8 {
		group.Add(1)
		go func() {
			defer group.Done()
			for range 100 {
				got, e := invert.Invert(s, cs)
				none, f := invert.Invert(s[1:], cs)
				if slices.Equal(got, want) && e == api.OK && none == nil && f == api.ErrInvertForm {
					right.Add(1)
				}
			}
		}()
	}
	group.Wait()
	if right.Load() != 800 {
		t.Errorf("%d of 800 calls were right", right.Load())
	}
}
