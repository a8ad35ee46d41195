package relex_test

import (
	"fmt"
	"math"
	"math/rand"
	"slices"
	"strings"
	"sync"
	"sync/atomic"
	"testing"

	"minuet/api"
	"minuet/lex"
	"minuet/relex"
)

// A token is written as its kind's letter and its bytes: "wtrue" is a TokWord of four bytes.

// kinds are the letters of the kinds.
var kinds = map[byte]int{
	'{': api.TokOpen,
	'}': api.TokClose,
	'[': api.TokBegin,
	']': api.TokEnd,
	':': api.TokColon,
	',': api.TokComma,
	't': api.TokText,
	'n': api.TokNumber,
	'w': api.TokWord,
	'r': api.TokRemark,
	'b': api.TokBlank,
	'x': api.TokBad,
}

// whole is the text of written tokens, one behind the other, and these tokens.
func whole(written ...string) (string, []api.Token) {
	s := ""
	var ts []api.Token
	for _, w := range written {
		kind, known := kinds[w[0]]
		if !known {
			panic("no kind of " + w)
		}
		ts = append(ts, api.Token{Kind: kind, From: len(s), To: len(s) + len(w) - 1})
		s += w[1:]
	}
	return s, ts
}

// tokens is layer 9's of a text that has some.
func tokens(s string) []api.Token {
	ts, e := lex.Tokens(s)
	if e != api.OK {
		panic("no tokens")
	}
	return ts
}

// brief is what a message shows of what may be long.
func brief(x any) string {
	s := fmt.Sprintf("%+q", fmt.Sprint(x))
	if len(s) > 200 {
		s = s[:200] + " .."
	}
	return s
}

// asked is what Again is asked of a text and its tokens.
type asked struct {
	s   string
	at  int
	cut int
	put string
}

// text is the text behind the edit.
func (a asked) text() string {
	return a.s[:a.at] + a.put + a.s[a.at+a.cut:]
}

// String is what a message shows of it.
func (a asked) String() string {
	return fmt.Sprintf("%s, %d, %d, %s", brief(a.s), a.at, a.cut, brief(a.put))
}

// counts are how many tokens are as they were, counted plainly: each count up to the first that is not.
func (a asked) counts(was, now []api.Token) (int, int) {
	i, j, by := 0, 0, len(a.put)-a.cut
	for i < len(was) && i < len(now) && was[i] == now[i] {
		i++
	}
	for i+j < len(was) && i+j < len(now) {
		x, y := was[len(was)-1-j], now[len(now)-1-j]
		if x.Kind != y.Kind || x.From+by != y.From || x.To+by != y.To {
			break
		}
		j++
	}
	return i, j
}

// answers: does Again answer just these?
func (a asked) answers(t *testing.T, want []api.Token, i, j int) {
	t.Helper()
	now, ahead, behind, e := relex.Again(a.s, tokens(a.s), a.at, a.cut, a.put)
	if !slices.Equal(now, want) || e != api.OK {
		t.Errorf("P10.1: %v: %s, %d, want %s", a, brief(now), e, brief(want))
	}
	if ahead != i || behind != j {
		t.Errorf("P10.1: %v: %d ahead, %d behind, want %d, %d", a, ahead, behind, i, j)
	}
}

// right: does Again answer layer 9's tokens of the new text, and the plain counts?
func (a asked) right(t *testing.T) {
	t.Helper()
	want := tokens(a.text())
	i, j := a.counts(tokens(a.s), want)
	a.answers(t, want, i, j)
}

// refused: is this answered by an error, and by nothing else?
func refused(t *testing.T, s string, ts []api.Token, at int, cut int, put string) {
	t.Helper()
	now, ahead, behind, e := relex.Again(s, ts, at, cut, put)
	if now != nil || ahead != 0 || behind != 0 || e != api.ErrRelexForm {
		t.Errorf("P10.1: %s, %s, %d, %d, %s: %s, %d, %d, %d", brief(s), brief(ts), at, cut, brief(put), brief(now), ahead, behind, e)
	}
}

// edited is an edit of a text of written tokens, the written tokens behind it, and both counts.
type edited struct {
	was    []string
	at     int
	cut    int
	put    string
	now    []string
	ahead  int
	behind int
}

// list is a list of written tokens.
func list(written ...string) []string { return written }

// ordinary are edits as they come.
func ordinary() map[string]edited {
	row := list("[[", "n1", ",,", "n2", "]]")
	return map[string]edited{
		"put at the start":           {row, 0, 0, "{", list("{{", "[[", "n1", ",,", "n2", "]]"), 0, 5},
		"put in the middle":          {row, 2, 0, ",3", list("[[", "n1", ",,", "n3", ",,", "n2", "]]"), 4, 1},
		"put at the end":             {row, 5, 0, " ", list("[[", "n1", ",,", "n2", "]]", "b "), 5, 0},
		"cut at the start":           {row, 0, 1, "", list("n1", ",,", "n2", "]]"), 0, 4},
		"cut in the middle":          {row, 2, 2, "", list("[[", "n1", "]]"), 2, 1},
		"cut at the end":             {row, 4, 1, "", list("[[", "n1", ",,", "n2"), 4, 0},
		"put and cut at the start":   {row, 0, 1, "{ ", list("{{", "b ", "n1", ",,", "n2", "]]"), 0, 4},
		"put and cut in the middle":  {row, 1, 1, "true", list("[[", "wtrue", ",,", "n2", "]]"), 1, 3},
		"put and cut at the end":     {row, 4, 1, "}", list("[[", "n1", ",,", "n2", "}}"), 4, 0},
		"neither at the start":       {row, 0, 0, "", row, 5, 0},
		"neither in the middle":      {row, 2, 0, "", row, 5, 0},
		"neither at the end":         {row, 5, 0, "", row, 5, 0},
		"more put than cut":          {row, 1, 1, "12", list("[[", "n12", ",,", "n2", "]]"), 1, 3},
		"less put than cut":          {row, 1, 3, "3", list("[[", "n3", "]]"), 2, 1},
		"many lines":                 {list("{{", "b\n ", `t"a"`, "::", "n1", "b\n", "}}"), 7, 1, "null", list("{{", "b\n ", `t"a"`, "::", "wnull", "b\n", "}}"), 4, 2},
		"a whole pair":               {list("{{", `t"a"`, "::", "n1", "}}"), 6, 0, `, "b": 2`, list("{{", `t"a"`, "::", "n1", ",,", "b ", `t"b"`, "::", "b ", "n2", "}}"), 4, 1},
		"a row of like signs, more":  {list("[[", "[[", "[["), 1, 0, "[", list("[[", "[[", "[[", "[["), 3, 0},
		"a row of like signs, less":  {list("[[", "[[", "[["), 1, 1, "", list("[[", "[["), 2, 0},
		"a row of like signs, other": {list("[[", "[[", "[["), 1, 1, "]", list("[[", "]]", "[["), 1, 1},
	}
}

// edges are the edits that the tokens around them feel, and the ends of what may be asked.
func edges() map[string]edited {
	return map[string]edited{
		"nothing upon nothing":       {nil, 0, 0, "", nil, 0, 0},
		"put upon nothing":           {nil, 0, 0, "{1", list("{{", "n1"), 0, 0},
		"cut whole":                  {list("{{", "n1", "}}"), 0, 3, "", nil, 0, 0},
		"cut whole, one byte":        {list("{{"), 0, 1, "", nil, 0, 0},
		"whole for another":          {list("{{", "}}"), 0, 2, "[1]", list("[[", "n1", "]]"), 0, 0},
		"whole for one alike behind": {list("n1", "b ", "xab"), 0, 4, "2x ab", list("n2", "xx", "b ", "xab"), 1, 2},
		"whole for one alike ahead":  {list("n1", "b ", "xab"), 0, 4, "2 cd1", list("n2", "b ", "xcd", "n1"), 3, 0},
		"whole for itself":           {list("n1", "b ", "xab"), 0, 4, "1 ab", list("n1", "b ", "xab"), 3, 0},

		"as it was, other bytes":       {list("[[", "n12", "]]"), 1, 2, "34", list("[[", "n34", "]]"), 3, 0},
		"as it was, another word":      {list("[[", "wtrue", "]]"), 1, 4, "null", list("[[", "wnull", "]]"), 3, 0},
		"as it was, within a text":     {list("[[", `t"ab"`, "]]"), 2, 1, ":", list("[[", `t":b"`, "]]"), 3, 0},
		"as it was, within a remark":   {list("r/*a*/", "n1"), 2, 1, "\"", list("r/*\"*/", "n1"), 2, 0},
		"as it was, another bad byte":  {list("x#", "n1"), 0, 1, "?", list("x?", "n1"), 2, 0},
		"as it was, all but one more":  {list("{{", "}}"), 2, 0, "}", list("{{", "}}", "}}"), 2, 0},
		"as they were, twice the row":  {list("n0", "n0"), 2, 0, "00", list("n0", "n0", "n0", "n0"), 2, 0},
		"as they were, ahead and less": {list("n0", "n0", "n0", "n0"), 0, 2, "", list("n0", "n0"), 2, 0},

		"joins words":             {list("xtr", "b ", "xue"), 2, 1, "", list("wtrue"), 0, 0},
		"joins words, one behind": {list("xtr", "b ", "xue", "]]"), 2, 1, "", list("wtrue", "]]"), 0, 1},
		"joins numbers":           {list("n1", "b ", "n2"), 1, 1, "", list("n12"), 0, 0},
		"joins blanks":            {list("b ", "n1", "b "), 1, 1, "", list("b  "), 0, 0},
		"joins slashes":           {list("x/", "b ", "x/", "n1"), 1, 1, "", list("r//1"), 0, 0},
		"joins a minus":           {list("x-", "b ", "n1"), 1, 1, "", list("n-1"), 0, 0},
		"joins a point":           {list("n1", "x.", "b ", "n5"), 2, 1, "", list("n1.5"), 0, 0},
		"joins by what is put":    {list("n0", "n1"), 1, 0, ".", list("n0.1"), 0, 0},
		"joins a remark's end":    {list("n1", "x/* * /2"), 5, 1, "", list("n1", "r/* */", "n2"), 1, 0},
		"parts a word":            {list("wtrue"), 2, 0, " ", list("xtr", "b ", "xue"), 0, 0},
		"parts a number":          {list("n12"), 1, 0, ",", list("n1", ",,", "n2"), 0, 0},
		"parts a number by a 0":   {list("n12"), 0, 0, "0", list("n0", "n12"), 0, 1},
		"parts a remark":          {list("r//x"), 1, 0, " ", list("x/", "b ", "x/", "xx"), 0, 0},
		"parts blanks":            {list("b  "), 1, 0, "1", list("b ", "n1", "b "), 0, 0},
		"parts a text":            {list(`t"ab"`), 2, 0, `"`, list(`t"a"`, "xb", `x"`), 0, 0},
		"parts a text by a line":  {list(`t"ab"`), 2, 0, "\n", list(`x"a`, "b\n", "xb", `x"`), 0, 0},
		"a word grows":            {list("wtrue", "b ", "n1"), 4, 0, "s", list("xtrues", "b ", "n1"), 0, 2},
		"a word shrinks":          {list("n1", "xtrues"), 5, 1, "", list("n1", "wtrue"), 1, 0},

		"a power, three bytes back":   {list("n1", "xe", "x+"), 3, 0, "5", list("n1e+5"), 0, 0},
		"a power, two bytes back":     {list("n1", "xe"), 2, 0, "5", list("n1e5"), 0, 0},
		"a power taken":               {list("n1e+5", "b "), 3, 1, "", list("n1", "xe", "x+", "b "), 0, 1},
		"a fraction, two bytes back":  {list("n1", "x."), 2, 0, "5", list("n1.5"), 0, 0},
		"a fraction's power":          {list("[[", "n1.5", "xe", "x-"), 6, 0, "0", list("[[", "n1.5e-0"), 1, 0},
		"a power's sign":              {list("n1", "xe", "x*", "n5"), 2, 1, "+", list("n1e+5"), 0, 0},
		"far from a power":            {list("n1", "xe", "x+", "b "), 4, 0, "5", list("n1", "xe", "x+", "b ", "n5"), 4, 0},
		"a word of a power's e":       {list("n1", "xe", "x+"), 2, 0, "x", list("n1", "xex", "x+"), 1, 1},
		"opens a text":                {list("[[", "n1", ",,", "n2", "]]"), 1, 0, `"`, list("[[", `x"1,2]`), 1, 0},
		"opens a text, a line":        {list("n1", ",,", "n2", "b\n", "n3"), 1, 0, `"`, list("n1", `x",2`, "b\n", "n3"), 1, 2},
		"closes a text":               {list("[[", `x"1,2]`), 3, 0, `"`, list("[[", `t"1"`, ",,", "n2", "]]"), 1, 0},
		"turns all texts":             {list(`t"a"`, "xb", `t"c"`), 0, 0, `"`, list(`t""`, "xa", `t"b"`, "xc", `x"`), 0, 0},
		"turns all texts, at the end": {list(`t"a"`, "xb", `t"c"`), 6, 1, "", list(`t"a"`, "xb", `x"c`), 2, 0},
		"a \\ opens a text":           {list(`t"a"`, ",,", `t"b"`), 2, 0, `\`, list(`t"a\","`, "xb", `x"`), 0, 0},
		"a \\ taken":                  {list(`t"a\","`, "xb", `x"`), 2, 1, "", list(`t"a"`, ",,", `t"b"`), 0, 0},
		"opens a remark":              {list("n1", "b ", "n2", "b\n", "n3"), 1, 0, "//", list("n1", "r// 2", "b\n", "n3"), 1, 2},
		"closes a remark by a line":   {list("n1", "r// 2"), 3, 0, "\n", list("n1", "r//", "b\n ", "n2"), 1, 0},
		"opens a long remark":         {list("n1", "b ", "n2", "b\n", "n3"), 1, 0, "/*", list("n1", "x/* 2\n3"), 1, 0},
		"opens one up to an end":      {list("n1", "b ", "n2", "x*", "x/", "n3"), 1, 0, "/*", list("n1", "r/* 2*/", "n3"), 1, 1},
		"closes a long remark":        {list("n1", "x/* 2\n3"), 4, 0, "*/", list("n1", "r/* */", "n2", "b\n", "n3"), 1, 0},
		"closes one by a slash":       {list("x/* *1"), 4, 0, "/", list("r/* */", "n1"), 0, 0},
		"opens one by a star":         {list("x/", "n1", "x*", "x/"), 1, 0, "*", list("r/*1*/"), 0, 0},
		"its star does not end it":    {list("r/**/", "n1"), 2, 1, "", list("x/*/1"), 0, 0},
		"takes a remark's end":        {list("r/**/", "n1", "r/**/"), 3, 1, "", list("r/**1/**/"), 0, 0},
		"a letter of two bytes":       {list("x\xc3", "x\xa9"), 1, 0, "\xc3", list("x\xc3", "x\xc3", "x\xa9"), 2, 0},
		"any bytes":                   {list("x\x00", "x\xff"), 1, 1, "\x7f\x80", list("x\x00", "x\x7f", "x\x80"), 2, 0},
	}
}

// all is what is written out, ordinary edits and edges.
func all() map[string]edited {
	found := edges()
	for name, c := range ordinary() {
		found["ordinary: "+name] = c
	}
	return found
}

// P10.1.

func TestWrittenEdits(t *testing.T) {
	for name, c := range all() {
		t.Run(name, func(t *testing.T) {
			s, was := whole(c.was...)
			now, want := whole(c.now...)
			a := asked{s, c.at, c.cut, c.put}
			if a.text() != now || !slices.Equal(tokens(s), was) {
				t.Fatalf("%v is not written right", a)
			}
			a.answers(t, want, c.ahead, c.behind)
		})
	}
}

// A nil list and an empty one are one.
func TestEmptyLists(t *testing.T) {
	for _, none := range [][]api.Token{nil, {}} {
		now, ahead, behind, e := relex.Again("", none, 0, 0, "")
		if len(now) != 0 || ahead != 0 || behind != 0 || e != api.OK {
			t.Errorf("P10.1: %v, %d, %d, %d", now, ahead, behind, e)
		}
		now, ahead, behind, e = relex.Again("", none, 0, 0, "1")
		if !slices.Equal(now, tokens("1")) || ahead != 0 || behind != 0 || e != api.OK {
			t.Errorf("P10.1: %v, %d, %d, %d", now, ahead, behind, e)
		}
	}
}

// texts is every text of at most n bytes made of these letters.
func texts(letters string, n int) []string {
	found := []string{""}
	for at := 0; at < len(found) && len(found[at]) < n; at++ {
		for i := range len(letters) {
			found = append(found, found[at]+letters[i:i+1])
		}
	}
	return found
}

// Every edit that puts a short text, of every short text of bytes that feel each other.
func TestEveryShortEdit(t *testing.T) {
	for _, c := range []struct {
		letters string
		n, k    int
	}{
		{"\"\\\n1", 4, 2},
		{"/*\n1", 4, 2},
		{"/*", 6, 3},
		{"1e+", 5, 2},
		{"0.-1", 4, 2},
		{" t\n{", 4, 2},
		{"\"/*\\\n 1e+.-x", 2, 2},
	} {
		puts := texts(c.letters, c.k)
		for _, s := range texts(c.letters, c.n) {
			for at := range len(s) + 1 {
				for cut := range len(s) - at + 1 {
					for _, put := range puts {
						asked{s, at, cut, put}.right(t)
					}
				}
			}
			if t.Failed() {
				return
			}
		}
	}
}

// pieces are what long texts are made of.
func pieces() []string {
	return []string{"{", "}", "[", "]", ":", ",", " ", "\n", "\"", "\"a\"", "\\", "/", "//", "/*", "*/", "*", "true", "null", "e", "x", "-", "+", ".", "0", "1", "29", "1.5e-7", "\x00", "é"}
}

// made is a text by chance of at most n bytes.
func made(r *rand.Rand, n int) string {
	from := pieces()
	s := ""
	for most := r.Intn(n + 1); len(s) < most; {
		s += from[r.Intn(len(from))]
	}
	return s[:min(len(s), n)]
}

// Long texts and edits by chance, always the same ones.
func TestLongTexts(t *testing.T) {
	r := rand.New(rand.NewSource(10))
	for range 4000 {
		s := made(r, api.MaxDoc)
		at := r.Intn(len(s) + 1)
		cut := r.Intn(len(s) - at + 1)
		if r.Intn(2) == 0 {
			cut = min(cut, r.Intn(6))
		}
		room := api.MaxDoc - len(s) + cut
		if r.Intn(2) == 0 {
			room = min(room, 5)
		}
		asked{s, at, cut, made(r, room)}.right(t)
		if t.Failed() {
			return
		}
	}
}

// One edit behind the other: each one's answer is what the next one is asked by.
func TestOneBehindTheOther(t *testing.T) {
	r := rand.New(rand.NewSource(11))
	s, ts := "", []api.Token(nil)
	for range 4000 {
		at := r.Intn(len(s) + 1)
		cut := r.Intn(min(len(s)-at, 4) + 1)
		put := made(r, min(6, api.MaxDoc-len(s)+cut))
		now, _, _, e := relex.Again(s, ts, at, cut, put)
		s = s[:at] + put + s[at+cut:]
		if !slices.Equal(now, tokens(s)) || e != api.OK {
			t.Fatalf("P10.1: %s: %s, %d", brief(s), brief(now), e)
		}
		ts = now
	}
}

// The longest texts.
func TestUpToMaxDoc(t *testing.T) {
	const n = api.MaxDoc
	for _, c := range []string{"[", "1", "0", " ", "x", "\"\"", "\"a", "/", "/**/", "//\n", "1,", "{ ", "\xff"} {
		full := strings.Repeat(c, n)[:n]
		for _, a := range []asked{
			{"", 0, 0, full},
			{full, 0, n, ""},
			{full, 0, n, full},
			{full, 0, 0, ""},
			{full, n, 0, ""},
			{full, n / 2, 0, ""},
			{full, 0, 1, "]"},
			{full, n / 2, 1, "]"},
			{full, n - 1, 1, "]"},
			{full, n / 2, 2, "]"},
			{full, 0, n - 1, full[1:]},
			{full[1:], 0, 0, "]"},
			{full[1:], n / 2, 0, "]"},
			{full[1:], n - 1, 0, "]"},
			{full[:1], 0, 0, full[1:]},
			{full[:1], 1, 0, full[1:]},
			{full[:1], 0, 1, full},
			{full[:n/2], n / 4, 0, full[n/2:]},
		} {
			a.right(t)
		}
	}
}

// Wrong inputs.

func TestRefusesTokensOfAnotherText(t *testing.T) {
	for name, c := range all() {
		t.Run(name, func(t *testing.T) {
			s, was := whole(c.was...)
			refused(t, s, append(slices.Clone(was), api.Token{}), c.at, c.cut, c.put)
			refused(t, s, append(slices.Clone(was), api.Token{Kind: api.TokBad, From: len(s), To: len(s) + 1}), c.at, c.cut, c.put)
			refused(t, s, append(slices.Clone(was), api.Token{Kind: api.TokBlank, From: len(s), To: len(s)}), c.at, c.cut, c.put)
			if len(was) == 0 {
				return
			}
			refused(t, s, nil, c.at, c.cut, c.put)
			refused(t, s, []api.Token{}, c.at, c.cut, c.put)
			refused(t, s, was[1:], c.at, c.cut, c.put)
			refused(t, s, was[:len(was)-1], c.at, c.cut, c.put)
			refused(t, s, append(slices.Clone(was), was...), c.at, c.cut, c.put)
			refused(t, s, append(was[:1:1], was...), c.at, c.cut, c.put)
			for i := range was {
				refused(t, s, slices.Delete(slices.Clone(was), i, i+1), c.at, c.cut, c.put)
				for _, turned := range turns(was[i]) {
					bad := slices.Clone(was)
					bad[i] = turned
					refused(t, s, bad, c.at, c.cut, c.put)
				}
			}
		})
	}
}

// turns are tokens that differ from one in one thing.
func turns(x api.Token) []api.Token {
	var found []api.Token
	for _, by := range []int{1, -1, 12, math.MaxInt, math.MinInt} {
		found = append(found,
			api.Token{Kind: x.Kind + by, From: x.From, To: x.To},
			api.Token{Kind: x.Kind, From: x.From + by, To: x.To},
			api.Token{Kind: x.Kind, From: x.From, To: x.To + by},
		)
	}
	return found
}

func TestRefusesTheTokensOfTheNewText(t *testing.T) {
	for name, c := range all() {
		s, was := whole(c.was...)
		_, now := whole(c.now...)
		if !slices.Equal(was, now) {
			t.Run(name, func(t *testing.T) { refused(t, s, now, c.at, c.cut, c.put) })
		}
	}
}

// Two tokens turned round, two as one, one as two.
func TestRefusesOtherTokensOfTheSameBytes(t *testing.T) {
	s, was := whole("[[", "n12", ",,", "xtr", "b ", "xue", "]]")
	for name, bad := range map[string][]string{
		"two as one":  list("[[", "n12", ",,", "xtr ue", "]]"),
		"one as two":  list("[[", "n1", "n2", ",,", "xtr", "b ", "xue", "]]"),
		"all as one":  list("x[12,tr ue]"),
		"other kinds": list("[[", "n12", ",,", "wtr", "b ", "xue", "]]"),
	} {
		_, ts := whole(bad...)
		t.Run(name, func(t *testing.T) { refused(t, s, ts, 0, 0, "") })
	}
	slices.Reverse(was)
	refused(t, s, was, 0, 0, "")
}

func TestRefusesPlacesAndCuts(t *testing.T) {
	for _, s := range []string{"", "1", "[1,2]", "\"a", strings.Repeat("x", api.MaxDoc)} {
		ts, n := tokens(s), len(s)
		for _, at := range []int{-1, -2, -n - 1, n + 1, n + 2, 2*n + 3, api.MaxDoc + 1, math.MaxInt, math.MaxInt - 1, math.MinInt, math.MinInt + 1} {
			for _, cut := range []int{0, 1, -1, n, -n, -at, math.MaxInt, math.MinInt} {
				refused(t, s, ts, at, cut, "")
				refused(t, s, ts, at, cut, "x")
			}
		}
		for at := range n + 1 {
			for _, cut := range []int{-1, -2, -n - 1, -at - 1, n - at + 1, n - at + 2, n + 1, 2*n + 1, math.MaxInt, math.MaxInt - 1, math.MaxInt - at, math.MinInt, math.MinInt + 1, math.MinInt + at} {
				refused(t, s, ts, at, cut, "")
				refused(t, s, ts, at, cut, "x")
			}
		}
	}
}

func TestRefusesTooMuch(t *testing.T) {
	const n = api.MaxDoc
	for _, c := range []string{"[", "1", " ", "x", "\"", "//", "/*"} {
		full := strings.Repeat(c, n)[:n]
		ts := tokens(full)
		for _, long := range []string{full + c[:1], full + full, strings.Repeat(full, 20)} {
			// More is put than may be, whatever is cut.
			refused(t, full, ts, 0, n, long)
			refused(t, full, ts, 0, 0, long)
			refused(t, "", nil, 0, 0, long)
			refused(t, c[:1], tokens(c[:1]), 0, 1, long)
			// A text that has no tokens, even if what is left of it has some.
			for _, bad := range [][]api.Token{nil, {}, ts} {
				refused(t, long, bad, 0, 0, "")
				refused(t, long, bad, 0, len(long), "")
				refused(t, long, bad, n, len(long)-n, "")
				refused(t, long, bad, 0, len(long), "1")
			}
		}
		// A new text of one more than may be.
		for _, at := range []int{0, 1, n / 2, n} {
			refused(t, full, ts, at, 0, "]")
			refused(t, full[1:], tokens(full[1:]), max(at-1, 0), 0, "]]")
		}
		refused(t, full, ts, 0, 1, "]]")
		refused(t, full, ts, n-1, 1, "]]")
		refused(t, full, ts, 0, n-1, full)
		refused(t, c[:1], tokens(c[:1]), 0, 0, full)
		refused(t, c[:1], tokens(c[:1]), 1, 0, full)
	}
}

// The rules of all calls.

// mark is what stands in spare room.
var mark = api.Token{Kind: 77, From: 77, To: 77}

// spare is a list with room behind it that is marked.
func spare(ts []api.Token) []api.Token {
	room := append(slices.Clone(ts), slices.Repeat([]api.Token{mark}, 9)...)
	return room[:len(ts)]
}

// spoil writes over a list, its spare room too.
func spoil(ts []api.Token) {
	ts = ts[:cap(ts)]
	for i := range ts {
		ts[i] = mark
	}
}

// What is handed in stays as it was, its spare room too.
func TestArgumentsStay(t *testing.T) {
	for name, c := range all() {
		t.Run(name, func(t *testing.T) {
			s, was := whole(c.was...)
			ts := spare(was)
			relex.Again(s, ts, c.at, c.cut, c.put)
			relex.Again(s, ts, c.at, len(s)+1, c.put)
			if !slices.Equal(ts, was) {
				t.Errorf("changed: %v, was %v", ts, was)
			}
			for _, x := range ts[len(ts) : len(ts)+9] {
				if x != mark {
					t.Fatalf("its spare room changed: %v", x)
				}
			}
		})
	}
}

// A list that was answered is its caller's own: neither what was handed in nor another answer changes with it.
func TestAnswersAreNewMemory(t *testing.T) {
	for name, c := range all() {
		t.Run(name, func(t *testing.T) {
			s, was := whole(c.was...)
			_, want := whole(c.now...)
			ts := spare(was)
			one, _, _, _ := relex.Again(s, ts, c.at, c.cut, c.put)
			two, _, _, _ := relex.Again(s, ts, c.at, c.cut, c.put)
			spoil(one)
			if !slices.Equal(two, want) || !slices.Equal(ts, was) || !slices.Equal(tokens(s), was) {
				t.Errorf("shares memory: %v, %v", two, ts)
			}
			spoil(ts)
			if !slices.Equal(two, want) {
				t.Errorf("shares memory with what was handed in: %v", two)
			}
			asked{s, c.at, c.cut, c.put}.answers(t, want, c.ahead, c.behind)
		})
	}
}

func TestCallsAtOneTime(t *testing.T) {
	c := ordinary()["a whole pair"]
	s, was := whole(c.was...)
	_, want := whole(c.now...)
	var right atomic.Int64
	var group sync.WaitGroup
	for range 8 {
		group.Add(1)
		go func() {
			defer group.Done()
			for range 100 {
				now, i, j, e := relex.Again(s, was, c.at, c.cut, c.put)
				none, k, l, f := relex.Again(s, was, c.at, -1, c.put)
				if slices.Equal(now, want) && i == c.ahead && j == c.behind && e == api.OK && none == nil && k+l == 0 && f == api.ErrRelexForm {
					right.Add(1)
				}
			}
		}()
	}
	group.Wait()
	if right.Load() != 800 {
		t.Errorf("%d of 800 calls were right", right.Load())
	}
}
