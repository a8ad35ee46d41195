package apply_test

import (
	"math"
	"slices"
	"strings"
	"sync"
	"sync/atomic"
	"testing"
	"unsafe"

	"minuet/api"
	"minuet/apply"
)

func keep(n int) api.Comp { return api.Comp{Kind: api.CompKeep, N: n} }

func cut(n int) api.Comp { return api.Comp{Kind: api.CompCut, N: n} }

func put(s string) api.Comp { return api.Comp{Kind: api.CompPut, Text: s} }

// edit is a list of pieces.
func edit(cs ...api.Comp) []api.Comp { return cs }

// times is pieces, again and again, n pieces in all.
func times(n int, cs ...api.Comp) []api.Comp {
	all := make([]api.Comp, n)
	for i := range all {
		all[i] = cs[i%len(cs)]
	}
	return all
}

// full is a text of n bytes in which neighbors differ.
func full(n int) string {
	b := make([]byte, n)
	for i := range b {
		b[i] = 'a' + byte(i*7%26)
	}
	return string(b)
}

// every is a text of all bytes, those that are no letters too.
func every() string {
	b := make([]byte, 256)
	for i := range b {
		b[i] = byte(i)
	}
	return string(b)
}

// follow is what becomes of a text byte by byte: what is left of it is taken from its front.
func follow(s string, cs []api.Comp) string {
	made, left := "", s
	for _, c := range cs {
		switch c.Kind {
		case api.CompPut:
			made += c.Text
		case api.CompCut:
			left = left[c.N:]
		case api.CompKeep:
			for range c.N {
				made += left[:1]
				left = left[1:]
			}
		}
	}
	return made
}

// isNormal: is a short raw edit in normal form, by the document's words?
func isNormal(cs []api.Comp) bool {
	for i, c := range cs {
		if c.N == 0 && c.Text == "" {
			return false
		}
		if i > 0 && (cs[i-1].Kind == c.Kind || cs[i-1].Kind == api.CompCut && c.Kind == api.CompPut) {
			return false
		}
	}
	return true
}

// all goes through every edit of at most n pieces of a few kinds and lengths, those that may not be too.
func all(n int, visit func([]api.Comp)) {
	pieces := edit(keep(0), keep(1), keep(2), put(""), put("A"), put("BC"), cut(0), cut(1), cut(2))
	var grow func(cs []api.Comp)
	grow = func(cs []api.Comp) {
		visit(cs)
		if len(cs) == n {
			return
		}
		for _, c := range pieces {
			grow(append(slices.Clone(cs), c))
		}
	}
	grow(nil)
}

// row is a text, an edit, and the text that the edit makes of it.
type row struct {
	s    string
	cs   []api.Comp
	want string
}

// ordinary are edits as they come.
func ordinary() map[string]row {
	return map[string]row{
		"keep, put":           {"abc", edit(keep(3), put("xy")), "abcxy"},
		"put, keep":           {"abc", edit(put("xy"), keep(3)), "xyabc"},
		"keep, cut":           {"abcd", edit(keep(1), cut(3)), "a"},
		"cut, keep":           {"abcd", edit(cut(3), keep(1)), "d"},
		"put, cut":            {"abcd", edit(put("xy"), cut(4)), "xy"},
		"keep, put, keep":     {"abcd", edit(keep(1), put("xy"), keep(3)), "axybcd"},
		"keep, cut, keep":     {"abcd", edit(keep(1), cut(2), keep(1)), "ad"},
		"cut, keep, cut":      {"abcd", edit(cut(1), keep(2), cut(1)), "bc"},
		"put, keep, put":      {"abcd", edit(put("x"), keep(4), put("y")), "xabcdy"},
		"keep, put, cut":      {"abcd", edit(keep(2), put("x"), cut(2)), "abx"},
		"put, cut, keep":      {"abcd", edit(put("x"), cut(2), keep(2)), "xcd"},
		"keep, put, cut, ...": {"abcdef", edit(keep(1), put("x"), cut(2), keep(1), put("yz"), cut(1), keep(1)), "axdyzf"},
		"all kinds by turns":  {"abcdefg", edit(cut(1), keep(1), cut(2), keep(1), put("x"), keep(1), put("yz"), cut(1)), "bexfyz"},
		"lines":               {"one\ntwo\n", edit(keep(4), put("1.5\n"), keep(4)), "one\n1.5\ntwo\n"},
		"put what is there":   {"aa", edit(keep(1), put("a"), keep(1)), "aaa"},
	}
}

// edges are the ends of what may be.
func edges() map[string]row {
	most, bytes := full(api.MaxLen), every()
	return map[string]row{
		"no list":                 {"", nil, ""},
		"no piece":                {"", edit(), ""},
		"keep one":                {"a", edit(keep(1)), "a"},
		"cut one":                 {"a", edit(cut(1)), ""},
		"put one":                 {"", edit(put("a")), "a"},
		"keep all":                {"abc", edit(keep(3)), "abc"},
		"cut all":                 {"abc", edit(cut(3)), ""},
		"put alone":               {"", edit(put("abc")), "abc"},
		"one for another":         {"abc", edit(put("abc"), cut(3)), "abc"},
		"keep the most":           {most, edit(keep(api.MaxLen)), most},
		"cut the most":            {most, edit(cut(api.MaxLen)), ""},
		"put the most":            {"", edit(put(most)), most},
		"put the most, cut it":    {bytes, edit(put(most), cut(256)), most},
		"the most for the most":   {strings.ToUpper(most), edit(put(most), cut(api.MaxLen)), most},
		"grow to the most":        {most[1:], edit(put(most[:1]), keep(api.MaxLen-1)), most},
		"grow to the most behind": {most[1:], edit(keep(api.MaxLen-1), put("a")), most[1:] + "a"},
		"of the most all but one": {most, edit(cut(api.MaxLen-1), keep(1)), most[api.MaxLen-1:]},
		"of the most one":         {most, edit(keep(api.MaxLen-1), cut(1)), most[:api.MaxLen-1]},
		"the most pieces":         {most, times(api.MaxLen, keep(1), cut(1)), follow(most, times(api.MaxLen, keep(1), cut(1)))},
		"the most pieces, put":    {most[:api.MaxLen/2], times(api.MaxLen, put("A"), keep(1)), follow(most, times(api.MaxLen, put("A"), keep(1)))},
		"keep any bytes":          {bytes, edit(keep(256)), bytes},
		"put any bytes":           {"", edit(put(bytes)), bytes},
		"cut any bytes":           {bytes, edit(keep(10), cut(240), keep(6)), bytes[:10] + bytes[250:]},
		"any bytes, all kinds":    {bytes, edit(put(bytes), cut(128), keep(128), put(bytes)), bytes + bytes[128:] + bytes},
		"a byte of 0":             {"\x00\x00", edit(keep(1), put("\x00"), cut(1)), "\x00\x00"},
		"in a letter's middle":    {"é", edit(keep(1), put("\xff"), keep(1)), "\xc3\xff\xa9"},
		"half of a letter":        {"é", edit(cut(1), keep(1)), "\xa9"},
		"a letter of halves":      {"\xc3", edit(keep(1), put("\xa9")), "é"},
	}
}

// wrong are edits that may not be; each text is as long as the edit would take, where there is such a length.
func wrong() map[string]row {
	most := full(api.MaxLen)
	return map[string]row{
		"keep nothing":         {"", edit(keep(0)), ""},
		"put nothing":          {"", edit(put("")), ""},
		"cut nothing":          {"", edit(cut(0)), ""},
		"nothing behind":       {"abc", edit(keep(3), cut(0)), ""},
		"nothing between":      {"abc", edit(keep(1), put(""), cut(2)), ""},
		"two keeps":            {"abc", edit(keep(1), keep(2)), ""},
		"two cuts":             {"abc", edit(cut(1), cut(2)), ""},
		"two puts":             {"abc", edit(put("x"), put("y"), keep(3)), ""},
		"cut, put":             {"abc", edit(cut(3), put("x")), ""},
		"keep, cut, put":       {"abc", edit(keep(1), cut(1), put("x"), keep(1)), ""},
		"a kind above all":     {"abc", edit(api.Comp{Kind: 3, N: 3}), ""},
		"a kind below all":     {"abc", edit(api.Comp{Kind: -1, N: 3}), ""},
		"a kind above, behind": {"abc", edit(keep(3), api.Comp{Kind: 3, Text: "x"}), ""},
		"the greatest kind":    {"abc", edit(keep(3), api.Comp{Kind: math.MaxInt}), ""},
		"keep below 0":         {"", edit(keep(-1)), ""},
		"cut below 0":          {"", edit(cut(-1)), ""},
		"below 0 made good":    {"abc", edit(keep(4), cut(-1)), ""},
		"made good by one":     {"abc", edit(cut(-1), keep(4)), ""},
		"keep the least":       {"", edit(keep(math.MinInt)), ""},
		"cut the greatest":     {"abc", edit(cut(math.MaxInt)), ""},
		"keeps wrap round":     {"", edit(keep(math.MaxInt), put("x"), keep(math.MaxInt), put("x"), keep(2)), ""},
		"keep with a Text":     {"abc", edit(api.Comp{Kind: api.CompKeep, N: 3, Text: "x"}), ""},
		"cut with a Text":      {"abc", edit(api.Comp{Kind: api.CompCut, N: 3, Text: "x"}), ""},
		"put with an N":        {"abc", edit(api.Comp{Kind: api.CompPut, N: 3, Text: "x"}), ""},
		"put with an N, keep":  {"abc", edit(api.Comp{Kind: api.CompPut, N: 1, Text: "x"}, keep(2)), ""},
		"put with N below 0":   {"abc", edit(api.Comp{Kind: api.CompPut, N: -1, Text: "x"}, keep(4)), ""},
		"put too much":         {"", edit(put(most + "x")), ""},
		"keep too much":        {most + "x", edit(keep(api.MaxLen + 1)), ""},
		"cut too much":         {most + "x", edit(cut(api.MaxLen + 1)), ""},
		"From above":           {most + "x", edit(keep(api.MaxLen), cut(1)), ""},
		"From above by cut":    {most + "x", edit(cut(api.MaxLen), keep(1)), ""},
		"To above by put":      {most, edit(keep(api.MaxLen), put("x")), ""},
		"To above by keep":     {"a", edit(put(most), keep(1)), ""},
		"To above beside cuts": {"abc", edit(put(most), cut(2), keep(1)), ""},
		"a piece too many":     {most[:api.MaxLen/2], times(api.MaxLen+1, put("A"), keep(1)), ""},
	}
}

// P3.1

func TestApply(t *testing.T) {
	for name, r := range ordinary() {
		if got, e := apply.Apply(r.s, r.cs); got != r.want || e != api.OK {
			t.Errorf("%s: %q, %d, want %q", name, got, e, r.want)
		}
	}
}

func TestApplyAtTheEdges(t *testing.T) {
	for name, r := range edges() {
		if got, e := apply.Apply(r.s, r.cs); got != r.want || e != api.OK {
			t.Errorf("%s: %q, %d, want %q", name, got, e, r.want)
		}
	}
}

// Pieces stand in every row that may be, and in no other one.
func TestApplyOfEveryShortEdit(t *testing.T) {
	all(5, func(cs []api.Comp) {
		from := 0
		for _, c := range cs {
			from += c.N
		}
		s := full(from)
		want, wantE := "", api.ErrApplyForm
		if isNormal(cs) {
			want, wantE = follow(s, cs), api.OK
		}
		if got, e := apply.Apply(s, cs); got != want || e != wantE {
			t.Fatalf("%q, %v: %q, %d, want %q, %d", s, cs, got, e, want, wantE)
		}
		if got, e := apply.Apply(full(from+1), cs); got != "" || e != api.ErrApplyForm {
			t.Fatalf("%v: %q, %d: the text is one longer", cs, got, e)
		}
	})
}

func TestApplyRefusesWhatMayNotBe(t *testing.T) {
	for name, r := range wrong() {
		for _, s := range []string{r.s, "", "abc", full(api.MaxLen)} {
			if got, e := apply.Apply(s, r.cs); got != "" || e != api.ErrApplyForm {
				t.Errorf("%s: %q, %d", name, got, e)
			}
		}
	}
}

// The text must have just the length that the edit takes.
func TestApplyRefusesOtherLengths(t *testing.T) {
	tried := edges()
	for name, r := range ordinary() {
		tried["ordinary: "+name] = r
	}
	for name, r := range tried {
		others := []string{r.s + "x", "x" + r.s, r.s + "\x00", r.s + full(api.MaxLen)}
		if r.s != "" {
			others = append(others, r.s[1:], r.s[:len(r.s)-1], "")
		}
		for _, s := range others {
			if len(s) == len(r.s) {
				continue
			}
			if got, e := apply.Apply(s, r.cs); got != "" || e != api.ErrApplyForm {
				t.Errorf("%s: %d bytes for %d: %q, %d", name, len(s), len(r.s), got, e)
			}
		}
	}
}

// A text of To's length is no text of From's.
func TestApplyAsksFromNotTo(t *testing.T) {
	cs := edit(keep(1), put("xyz"), cut(1))
	if got, e := apply.Apply("abcd", cs); got != "" || e != api.ErrApplyForm {
		t.Errorf("%q, %d: To is 4, From is 2", got, e)
	}
	if got, e := apply.Apply("ab", cs); got != "axyz" || e != api.OK {
		t.Errorf("%q, %d", got, e)
	}
}

// The rules of all calls.

// mark stands in the spare room behind an edit.
var mark = api.Comp{Kind: 77, N: 77, Text: "spare"}

func TestArgumentsStay(t *testing.T) {
	tried := wrong()
	for name, r := range edges() {
		tried["edge: "+name] = r
	}
	for name, r := range ordinary() {
		tried["ordinary: "+name] = r
	}
	for name, r := range tried {
		room := append(slices.Clone(r.cs), mark, mark)
		old, s := slices.Clone(room), strings.Clone(r.s)
		apply.Apply(s, room[:len(r.cs)])
		apply.Apply(s+"x", room[:len(r.cs)])
		if !slices.Equal(room, old) || s != r.s {
			t.Errorf("%s: changed", name)
		}
	}
}

// within: does a text lie, be it in part, in another one's memory?
func within(s, in string) bool {
	if s == "" || in == "" {
		return false
	}
	a, b := uintptr(unsafe.Pointer(unsafe.StringData(s))), uintptr(unsafe.Pointer(unsafe.StringData(in)))
	return a < b+uintptr(len(in)) && b < a+uintptr(len(s))
}

func TestAnswersAreNewMemory(t *testing.T) {
	tried := edges()
	for name, r := range ordinary() {
		tried["ordinary: "+name] = r
	}
	for name, r := range tried {
		got, _ := apply.Apply(r.s, r.cs)
		if len(got) < 2 {
			continue // texts of one byte lie in a table of the language's own
		}
		again, _ := apply.Apply(r.s, r.cs)
		if within(got, r.s) || within(got, again) {
			t.Errorf("%s: shares memory", name)
		}
		for _, c := range r.cs {
			if within(got, c.Text) {
				t.Errorf("%s: shares memory with what is put", name)
			}
		}
	}
}

func TestCallsAtOneTime(t *testing.T) {
	s, cs := "abcdef", edit(keep(1), put("x"), cut(2), keep(1), put("yz"), cut(1), keep(1))
	var right atomic.Int64
	var group sync.WaitGroup
	for range 8 {
		group.Add(1)
		go func() {
			defer group.Done()
			for range 100 {
				got, e := apply.Apply(s, cs)
				none, f := apply.Apply(s[1:], cs)
				if got == "axdyzf" && e == api.OK && none == "" && f == api.ErrApplyForm {
					right.Add(1)
				}
			}
		}()
	}
	group.Wait()
	if right.Load() != 800 {
		t.Errorf("%d of 800 calls were right", right.Load())
	}
}
