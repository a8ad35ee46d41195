package parse_test

import (
	"fmt"
	"math/rand"
	"slices"
	"strings"
	"sync"
	"sync/atomic"
	"testing"

	"minuet/api"
	"minuet/lex"
	"minuet/parse"
)

// A tree is written as its kind's letter, its span, and in brackets its children: "A0-3(N1-2)" is an array of a number.

// brief is what a message shows of what may be long.
func brief(x any) string {
	s := fmt.Sprintf("%+q", fmt.Sprint(x))
	if len(s) > 300 {
		s = s[:300] + " .."
	}
	return s
}

// written writes the tree below an id; ids are places in the list of nodes, as Parse tells them.
func written(t api.Tree, id int) string {
	n := t.Nodes[id]
	var kids []string
	for _, k := range n.Kids {
		kids = append(kids, written(t, k))
	}
	out := fmt.Sprintf("%c%d-%d", "ROAPTNWE"[n.Kind], n.From, n.To)
	if len(kids) > 0 {
		out += "(" + strings.Join(kids, " ") + ")"
	}
	return out
}

// must is Parse of a text that has a tree, as each short enough one has.
func must(s string) api.Tree {
	t, e := parse.Parse(s)
	if e != api.OK {
		panic("no tree of " + s)
	}
	return t
}

// reads: is the tree of a text this written one?
func reads(t *testing.T, s string, want string) {
	t.Helper()
	x, e := parse.Parse(s)
	if e != api.OK || len(x.Nodes) == 0 {
		t.Errorf("P11.1: %s: %s, %d", brief(s), brief(x), e)
		return
	}
	if got := written(x, 0); got != want {
		t.Errorf("P11.1: %s: %s, want %s", brief(s), got, want)
	}
	right(t, s)
}

// branch is a node as the words of the chapter make it, one within the other.
type branch struct {
	kind int
	from int
	to   int
	kids []*branch
}

// plain goes over tokens by the words of the chapter, one function calling the other.
type plain struct {
	ts  []api.Token
	end int
}

func (p *plain) place() int {
	if len(p.ts) == 0 {
		return p.end
	}
	return p.ts[0].From
}

func (p *plain) is(kinds ...int) bool {
	for _, k := range kinds {
		if len(p.ts) > 0 && p.ts[0].Kind == k {
			return true
		}
	}
	return false
}

func (p *plain) begins(depth int) bool {
	return p.is(api.TokText, api.TokNumber, api.TokWord) || depth <= api.MaxDepth && p.is(api.TokOpen, api.TokBegin)
}

func (p *plain) one(kind int) *branch {
	t := p.ts[0]
	p.ts = p.ts[1:]
	return &branch{kind: kind, from: t.From, to: t.To}
}

func (p *plain) lack() *branch {
	return &branch{kind: api.NodeError, from: p.place(), to: p.place()}
}

func (p *plain) inError(v *branch) *branch {
	return &branch{kind: api.NodeError, from: v.from, to: v.to, kids: []*branch{v}}
}

func (p *plain) root() *branch {
	r := &branch{kind: api.NodeRoot, to: p.end}
	some := false
	for len(p.ts) > 0 {
		switch {
		case !p.begins(1):
			r.kids = append(r.kids, p.one(api.NodeError))
		case !some:
			r.kids = append(r.kids, p.value(1))
			some = true
		default:
			r.kids = append(r.kids, p.inError(p.value(1)))
		}
	}
	if !some {
		r.kids = append(r.kids, p.lack())
	}
	return r
}

func (p *plain) value(depth int) *branch {
	switch {
	case p.is(api.TokText):
		return p.one(api.NodeText)
	case p.is(api.TokNumber):
		return p.one(api.NodeNumber)
	case p.is(api.TokWord):
		return p.one(api.NodeWord)
	case p.is(api.TokOpen):
		return p.within(p.one(api.NodeObject), depth, api.TokClose, p.member)
	}
	return p.within(p.one(api.NodeArray), depth, api.TokEnd, p.value)
}

func (p *plain) within(v *branch, depth int, close int, element func(depth int) *branch) *branch {
	for last := ""; ; {
		switch {
		case len(p.ts) == 0:
			v.kids = append(v.kids, p.lack())
			v.to = p.end
			return v
		case p.is(close):
			if last == "comma" {
				v.kids = append(v.kids, p.lack())
			}
			v.to = p.one(0).to
			return v
		case last == "element" && p.is(api.TokComma):
			p.one(0)
			last = "comma"
		case p.begins(depth + 1):
			if last == "element" {
				v.kids = append(v.kids, p.lack())
			}
			v.kids = append(v.kids, element(depth+1))
			last = "element"
		default:
			v.kids = append(v.kids, p.one(api.NodeError))
		}
	}
}

func (p *plain) member(depth int) *branch {
	if !p.is(api.TokText) {
		return p.inError(p.value(depth))
	}
	text := p.one(api.NodeText)
	pair := &branch{kind: api.NodePair, from: text.from, to: text.to, kids: []*branch{text}}
	if p.is(api.TokColon) {
		pair.to = p.one(0).to
	} else {
		pair.kids = append(pair.kids, p.lack())
	}
	if p.begins(depth) {
		pair.kids = append(pair.kids, p.value(depth))
	} else {
		pair.kids = append(pair.kids, p.lack())
	}
	pair.to = max(pair.to, pair.kids[len(pair.kids)-1].to)
	return pair
}

// number puts a branch, and then what is below it, into a tree.
func (b *branch) number(t *api.Tree) int {
	id := len(t.Nodes)
	t.Nodes = append(t.Nodes, api.Node{Id: id, Kind: b.kind, From: b.from, To: b.to})
	var kids []int
	for _, k := range b.kids {
		kids = append(kids, k.number(t))
	}
	t.Nodes[id].Kids = kids
	t.Next = len(t.Nodes)
	return id
}

// plainly is the tree of a text by the words of the chapter.
func plainly(s string) api.Tree {
	ts, e := lex.Tokens(s)
	if e != api.OK {
		panic("no tokens")
	}
	p := plain{end: len(s)}
	for _, x := range ts {
		if x.Kind != api.TokBlank && x.Kind != api.TokRemark {
			p.ts = append(p.ts, x)
		}
	}
	var t api.Tree
	p.root().number(&t)
	return t
}

// same: are two trees the same, an empty list and none being one?
func same(a, b api.Tree) bool {
	if a.Root != b.Root || a.Next != b.Next || len(a.Nodes) != len(b.Nodes) {
		return false
	}
	for i, x := range a.Nodes {
		y := b.Nodes[i]
		if x.Id != y.Id || x.Kind != y.Kind || x.From != y.From || x.To != y.To || !slices.Equal(x.Kids, y.Kids) {
			return false
		}
	}
	return true
}

// right: does Parse answer the tree by the words, and May take it for this text alone?
func right(t *testing.T, s string) {
	t.Helper()
	got, e := parse.Parse(s)
	if want := plainly(s); !same(got, want) || e != api.OK {
		t.Fatalf("P11.1: %s: %s, %d, want %s", brief(s), brief(got), e, brief(want))
	}
	if !parse.May(got, len(s)) || parse.May(got, len(s)+1) || parse.May(got, len(s)-1) {
		t.Fatalf("P11.2: %s: %s", brief(s), brief(got))
	}
}

// P11.1.

func TestValues(t *testing.T) {
	for s, want := range map[string]string{
		`""`:         "R0-2(T0-2)",
		`"a\"b"`:     "R0-6(T0-6)",
		"0":          "R0-1(N0-1)",
		"-1.5e+7":    "R0-7(N0-7)",
		"true":       "R0-4(W0-4)",
		"false":      "R0-5(W0-5)",
		"null":       "R0-4(W0-4)",
		"{}":         "R0-2(O0-2)",
		"[]":         "R0-2(A0-2)",
		"[1]":        "R0-3(A0-3(N1-2))",
		"[1,2,3]":    "R0-7(A0-7(N1-2 N3-4 N5-6))",
		`["a",null]`: "R0-10(A0-10(T1-4 W5-9))",

		`{"a":1}`:           "R0-7(O0-7(P1-6(T1-4 N5-6)))",
		`{"a":"b"}`:         "R0-9(O0-9(P1-8(T1-4 T5-8)))",
		`{"a":true,"b":2}`:  "R0-16(O0-16(P1-9(T1-4 W5-9) P10-15(T10-13 N14-15)))",
		`{"a":1,"a":1}`:     "R0-13(O0-13(P1-6(T1-4 N5-6) P7-12(T7-10 N11-12)))",
		"[[]]":              "R0-4(A0-4(A1-3))",
		"[[],[],{}]":        "R0-10(A0-10(A1-3 A4-6 O7-9))",
		"[[1],[2,3]]":       "R0-11(A0-11(A1-4(N2-3) A5-10(N6-7 N8-9)))",
		`{"a":{}}`:          "R0-8(O0-8(P1-7(T1-4 O5-7)))",
		`{"a":[]}`:          "R0-8(O0-8(P1-7(T1-4 A5-7)))",
		`{"a":{"b":[1]}}`:   "R0-15(O0-15(P1-14(T1-4 O5-14(P6-13(T6-9 A10-13(N11-12))))))",
		`[{"a":1},{"b":2}]`: "R0-17(A0-17(O1-8(P2-7(T2-5 N6-7)) O9-16(P10-15(T10-13 N14-15))))",
	} {
		reads(t, s, want)
	}
}

func TestBlanksAndRemarksAreNowhere(t *testing.T) {
	for s, want := range map[string]string{
		" 1 ":                 "R0-3(N1-2)",
		"\t\r\n1\n":           "R0-5(N3-4)",
		"//x\n1":              "R0-5(N4-5)",
		"1//2":                "R0-4(N0-1)",
		"/*1*/2/*3*/":         "R0-11(N5-6)",
		" [ 1 , 2 ] ":         "R0-11(A1-10(N3-4 N7-8))",
		"[/**/]":              "R0-6(A0-6)",
		"[//]\n]":             "R0-6(A0-6)",
		"[1/**/,//\n2]":       "R0-12(A0-12(N1-2 N10-11))",
		`{ "a" : 1 }`:         "R0-11(O0-11(P2-9(T2-5 N8-9)))",
		`{"a"/**/:/**/1/**/}`: "R0-19(O0-19(P1-14(T1-4 N13-14)))",
	} {
		reads(t, s, want)
	}
}

func TestRoot(t *testing.T) {
	for s, want := range map[string]string{
		"":           "R0-0(E0-0)",
		" ":          "R0-1(E1-1)",
		"\n\t":       "R0-2(E2-2)",
		"//":         "R0-2(E2-2)",
		"/* */ ":     "R0-6(E6-6)",
		"//1\n /**/": "R0-9(E9-9)",

		"#":      "R0-1(E0-1 E1-1)",
		"# ":     "R0-2(E0-1 E2-2)",
		"/*":     "R0-2(E0-2 E2-2)",
		"tru":    "R0-3(E0-3 E3-3)",
		"}":      "R0-1(E0-1 E1-1)",
		"]":      "R0-1(E0-1 E1-1)",
		":":      "R0-1(E0-1 E1-1)",
		",":      "R0-1(E0-1 E1-1)",
		"}]:, #": "R0-6(E0-1 E1-2 E2-3 E3-4 E5-6 E6-6)",

		"#1":    "R0-2(E0-1 N1-2)",
		"1#":    "R0-2(N0-1 E1-2)",
		", 1 ,": "R0-5(E0-1 N2-3 E4-5)",
		"]1]":   "R0-3(E0-1 N1-2 E2-3)",
		"[]]":   "R0-3(A0-2 E2-3)",
		"{}}]":  "R0-4(O0-2 E2-3 E3-4)",

		"1 2":     "R0-3(N0-1 E2-3(N2-3))",
		"1,2":     "R0-3(N0-1 E1-2 E2-3(N2-3))",
		"1 2 3":   "R0-5(N0-1 E2-3(N2-3) E4-5(N4-5))",
		"[][]":    "R0-4(A0-2 E2-4(A2-4))",
		"1[2":     "R0-3(N0-1 E1-3(A1-3(N2-3 E3-3)))",
		"1[2 ":    "R0-4(N0-1 E1-4(A1-4(N2-3 E4-4)))",
		"1{}#":    "R0-4(N0-1 E1-3(O1-3) E3-4)",
		`1"a":2`:  "R0-6(N0-1 E1-4(T1-4) E4-5 E5-6(N5-6))",
		`"a":1`:   "R0-5(T0-3 E3-4 E4-5(N4-5))",
		"1 [] {}": "R0-7(N0-1 E2-4(A2-4) E5-7(O5-7))",
		"#1#2#":   "R0-5(E0-1 N1-2 E2-3 E3-4(N3-4) E4-5)",
	} {
		reads(t, s, want)
	}
}

func TestCommas(t *testing.T) {
	for s, want := range map[string]string{
		"[,]":       "R0-3(A0-3(E1-2))",
		"[,,]":      "R0-4(A0-4(E1-2 E2-3))",
		"[,1]":      "R0-4(A0-4(E1-2 N2-3))",
		"[,,1]":     "R0-5(A0-5(E1-2 E2-3 N3-4))",
		"[1,]":      "R0-4(A0-4(N1-2 E3-3))",
		"[1, ]":     "R0-5(A0-5(N1-2 E4-4))",
		"[1,,]":     "R0-5(A0-5(N1-2 E3-4 E4-4))",
		"[1,,2]":    "R0-6(A0-6(N1-2 E3-4 N4-5))",
		"[1,,,2]":   "R0-7(A0-7(N1-2 E3-4 E4-5 N5-6))",
		"[1 2]":     "R0-5(A0-5(N1-2 E3-3 N3-4))",
		"[1 2 3]":   "R0-7(A0-7(N1-2 E3-3 N3-4 E5-5 N5-6))",
		"[[][]]":    "R0-6(A0-6(A1-3 E3-3 A3-5))",
		"[1,2 3,4]": "R0-9(A0-9(N1-2 N3-4 E5-5 N5-6 N7-8))",

		"{,}":            "R0-3(O0-3(E1-2))",
		`{,"a":1}`:       "R0-8(O0-8(E1-2 P2-7(T2-5 N6-7)))",
		`{"a":1,}`:       "R0-8(O0-8(P1-6(T1-4 N5-6) E7-7))",
		`{"a":1,,}`:      "R0-9(O0-9(P1-6(T1-4 N5-6) E7-8 E8-8))",
		`{"a":1,,"b":2}`: "R0-14(O0-14(P1-6(T1-4 N5-6) E7-8 P8-13(T8-11 N12-13)))",
		`{"a":1"b":2}`:   "R0-12(O0-12(P1-6(T1-4 N5-6) E6-6 P6-11(T6-9 N10-11)))",
	} {
		reads(t, s, want)
	}
}

func TestStraysWithin(t *testing.T) {
	for s, want := range map[string]string{
		"[#]":       "R0-3(A0-3(E1-2))",
		"[:]":       "R0-3(A0-3(E1-2))",
		"[}]":       "R0-3(A0-3(E1-2))",
		"{]}":       "R0-3(O0-3(E1-2))",
		"{:}":       "R0-3(O0-3(E1-2))",
		"{#}":       "R0-3(O0-3(E1-2))",
		"[#1]":      "R0-4(A0-4(E1-2 N2-3))",
		"[1#]":      "R0-4(A0-4(N1-2 E2-3))",
		"[1#,2]":    "R0-6(A0-6(N1-2 E2-3 N4-5))",
		"[1,#2]":    "R0-6(A0-6(N1-2 E3-4 N4-5))",
		"[1#2]":     "R0-5(A0-5(N1-2 E2-3 E3-3 N3-4))",
		"[1,#]":     "R0-5(A0-5(N1-2 E3-4 E4-4))",
		"[1#,]":     "R0-5(A0-5(N1-2 E2-3 E4-4))",
		"[1#,#]":    "R0-6(A0-6(N1-2 E2-3 E4-5 E5-5))",
		"[1#,#,2]":  "R0-8(A0-8(N1-2 E2-3 E4-5 E5-6 N6-7))",
		"[#,1]":     "R0-5(A0-5(E1-2 E2-3 N3-4))",
		"[1 : , 2]": "R0-9(A0-9(N1-2 E3-4 N7-8))",

		`{"a":1#}`:       "R0-8(O0-8(P1-6(T1-4 N5-6) E6-7))",
		`{#"a":1}`:       "R0-8(O0-8(E1-2 P2-7(T2-5 N6-7)))",
		`{"a":1:,"b":2}`: "R0-14(O0-14(P1-6(T1-4 N5-6) E6-7 P8-13(T8-11 N12-13)))",
		`{"a":1#"b":2}`:  "R0-13(O0-13(P1-6(T1-4 N5-6) E6-7 E7-7 P7-12(T7-10 N11-12)))",
	} {
		reads(t, s, want)
	}
}

func TestBracketsThatDoNotClose(t *testing.T) {
	for s, want := range map[string]string{
		"[":        "R0-1(A0-1(E1-1))",
		"{":        "R0-1(O0-1(E1-1))",
		"[ ":       "R0-2(A0-2(E2-2))",
		"{//":      "R0-3(O0-3(E3-3))",
		"[1":       "R0-2(A0-2(N1-2 E2-2))",
		"[1,":      "R0-3(A0-3(N1-2 E3-3))",
		"[1, ":     "R0-4(A0-4(N1-2 E4-4))",
		"[1,#":     "R0-4(A0-4(N1-2 E3-4 E4-4))",
		"[,":       "R0-2(A0-2(E1-2 E2-2))",
		"[}":       "R0-2(A0-2(E1-2 E2-2))",
		"{]":       "R0-2(O0-2(E1-2 E2-2))",
		"[[":       "R0-2(A0-2(A1-2(E2-2) E2-2))",
		"[[]":      "R0-3(A0-3(A1-3 E3-3))",
		"[[1,":     "R0-4(A0-4(A1-4(N2-3 E4-4) E4-4))",
		"[{]}":     "R0-4(A0-4(O1-4(E2-3) E4-4))",
		"[{]":      "R0-3(A0-3(O1-3(E2-3 E3-3) E3-3))",
		"{[}]":     "R0-4(O0-4(E1-4(A1-4(E2-3)) E4-4))",
		"{[}":      "R0-3(O0-3(E1-3(A1-3(E2-3 E3-3)) E3-3))",
		"1 [":      "R0-3(N0-1 E2-3(A2-3(E3-3)))",
		`{"a":1`:   "R0-6(O0-6(P1-6(T1-4 N5-6) E6-6))",
		`{"a":1, `: "R0-8(O0-8(P1-6(T1-4 N5-6) E8-8))",
		`{"a":[`:   "R0-6(O0-6(P1-6(T1-4 A5-6(E6-6)) E6-6))",
		`{"a":{ `:  "R0-7(O0-7(P1-7(T1-4 O5-7(E7-7)) E7-7))",
		"[/*":      "R0-3(A0-3(E1-3 E3-3))",
		`["a`:      "R0-3(A0-3(E1-3 E3-3))",
	} {
		reads(t, s, want)
	}
}

func TestPairs(t *testing.T) {
	for s, want := range map[string]string{
		`{"a"1}`:      "R0-6(O0-6(P1-5(T1-4 E4-4 N4-5)))",
		`{"a" 1}`:     "R0-7(O0-7(P1-6(T1-4 E5-5 N5-6)))",
		`{"a""b"}`:    "R0-8(O0-8(P1-7(T1-4 E4-4 T4-7)))",
		`{"a"[]}`:     "R0-7(O0-7(P1-6(T1-4 E4-4 A4-6)))",
		`{"a""b":1}`:  "R0-10(O0-10(P1-7(T1-4 E4-4 T4-7) E7-8 E8-8 E8-9(N8-9)))",
		`{"a":}`:      "R0-6(O0-6(P1-5(T1-4 E5-5)))",
		`{"a": }`:     "R0-7(O0-7(P1-6(T1-4 E6-6)))",
		`{"a":,}`:     "R0-7(O0-7(P1-5(T1-4 E5-5) E6-6))",
		`{"a": ,}`:    "R0-8(O0-8(P1-6(T1-4 E6-6) E7-7))",
		`{"a":#}`:     "R0-7(O0-7(P1-5(T1-4 E5-5) E5-6))",
		`{"a": ]}`:    "R0-8(O0-8(P1-6(T1-4 E6-6) E6-7))",
		`{"a"::1}`:    "R0-8(O0-8(P1-5(T1-4 E5-5) E5-6 E6-6 E6-7(N6-7)))",
		`{"a":/**/}`:  "R0-10(O0-10(P1-9(T1-4 E9-9)))",
		`{"a"}`:       "R0-5(O0-5(P1-4(T1-4 E4-4 E4-4)))",
		`{"a" }`:      "R0-6(O0-6(P1-5(T1-4 E5-5 E5-5)))",
		`{"a",}`:      "R0-6(O0-6(P1-4(T1-4 E4-4 E4-4) E5-5))",
		`{"a" ,"b"}`:  "R0-10(O0-10(P1-5(T1-4 E5-5 E5-5) P6-9(T6-9 E9-9 E9-9)))",
		`{"a"#}`:      "R0-6(O0-6(P1-4(T1-4 E4-4 E4-4) E4-5))",
		`{"a"#:1}`:    "R0-8(O0-8(P1-4(T1-4 E4-4 E4-4) E4-5 E5-6 E6-6 E6-7(N6-7)))",
		`{"a"`:        "R0-4(O0-4(P1-4(T1-4 E4-4 E4-4) E4-4))",
		`{"a" `:       "R0-5(O0-5(P1-5(T1-4 E5-5 E5-5) E5-5))",
		`{"a":`:       "R0-5(O0-5(P1-5(T1-4 E5-5) E5-5))",
		`{"a": `:      "R0-6(O0-6(P1-6(T1-4 E6-6) E6-6))",
		`{"a"//`:      "R0-6(O0-6(P1-6(T1-4 E6-6 E6-6) E6-6))",
		`{"a":[1}`:    "R0-8(O0-8(P1-8(T1-4 A5-8(N6-7 E7-8 E8-8)) E8-8))",
		`{"a":{"b"}}`: "R0-11(O0-11(P1-10(T1-4 O5-10(P6-9(T6-9 E9-9 E9-9)))))",
	} {
		reads(t, s, want)
	}
}

func TestElementsOfObjectsThatAreNoTexts(t *testing.T) {
	for s, want := range map[string]string{
		"{1}":        "R0-3(O0-3(E1-2(N1-2)))",
		"{ 1 }":      "R0-5(O0-5(E2-3(N2-3)))",
		"{true}":     "R0-6(O0-6(E1-5(W1-5)))",
		"{[]}":       "R0-4(O0-4(E1-3(A1-3)))",
		"{{}}":       "R0-4(O0-4(E1-3(O1-3)))",
		"{[1,2]}":    "R0-7(O0-7(E1-6(A1-6(N2-3 N4-5))))",
		"{{1}}":      "R0-5(O0-5(E1-4(O1-4(E2-3(N2-3)))))",
		`{{"a":1}}`:  "R0-9(O0-9(E1-8(O1-8(P2-7(T2-5 N6-7)))))",
		"{1,2}":      "R0-5(O0-5(E1-2(N1-2) E3-4(N3-4)))",
		"{1 2}":      "R0-5(O0-5(E1-2(N1-2) E3-3 E3-4(N3-4)))",
		"{1,}":       "R0-4(O0-4(E1-2(N1-2) E3-3))",
		"{1:2}":      "R0-5(O0-5(E1-2(N1-2) E2-3 E3-3 E3-4(N3-4)))",
		`{1,"a":2}`:  "R0-9(O0-9(E1-2(N1-2) P3-8(T3-6 N7-8)))",
		`{"a":1,2}`:  "R0-9(O0-9(P1-6(T1-4 N5-6) E7-8(N7-8)))",
		"{[":         "R0-2(O0-2(E1-2(A1-2(E2-2)) E2-2))",
		"{[ ":        "R0-3(O0-3(E1-3(A1-3(E3-3)) E3-3))",
		"{{1":        "R0-3(O0-3(E1-3(O1-3(E2-3(N2-3) E3-3)) E3-3))",
		`{null"a":1`: "R0-10(O0-10(E1-5(W1-5) E5-5 P5-10(T5-8 N9-10) E10-10))",
	} {
		reads(t, s, want)
	}
}

// Depths: what opens one of them, and what closes it again.
func ways() map[string][2]string {
	return map[string][2]string{
		"lists":             {"[", "]"},
		"objects":           {`{"":`, "}"},
		"objects in errors": {"{", "}"},
	}
}

func TestDepth(t *testing.T) {
	for name, way := range ways() {
		t.Run(name, func(t *testing.T) {
			for n := 1; n <= api.MaxDepth+3; n++ {
				deep := strings.Repeat(way[0], n-1)
				back := strings.Repeat(way[1], n-1)
				for _, inner := range []string{"[]", "{}", "[1]", `{"a":1}`, "[", "{", "]", "1", `"a"`, "null", "[1,2", "[[]]", "[{}]", "{[]}", `{"a":[]}`, "[1,[]]"} {
					right(t, deep+inner+back)
					right(t, deep+inner)
					right(t, deep+inner+back+"1")
				}
			}
		})
	}
	for n := 1; n <= api.MaxDepth+3; n++ {
		turns, back := "", ""
		for i := range n {
			turns += []string{"[1,", `{"a":`}[i%2]
			back = []string{"]", "}"}[i%2] + back
		}
		right(t, turns+"[]"+back)
		right(t, turns+"{}"+back)
		right(t, turns+"1"+back)
	}
}

// count counts the nodes of a kind.
func count(x api.Tree, kind int) int {
	n := 0
	for _, y := range x.Nodes {
		if y.Kind == kind {
			n++
		}
	}
	return n
}

// counts holds the counts of errors, arrays and objects in a text's tree against those that should be.
func counts(t *testing.T, s string, wrong, arrays, objects int) {
	t.Helper()
	x := must(s)
	if e, a, o := count(x, api.NodeError), count(x, api.NodeArray), count(x, api.NodeObject); e != wrong || a != arrays || o != objects {
		t.Errorf("P11.1: %s: %d errors, %d arrays, %d objects, want %d, %d, %d", brief(s), e, a, o, wrong, arrays, objects)
	}
	right(t, s)
}

func TestMaxDepthAndOneMore(t *testing.T) {
	const n = api.MaxDepth
	lists := func(k int) string { return strings.Repeat("[", k) + strings.Repeat("]", k) }
	objects := func(k int) string { return strings.Repeat(`{"":`, k-1) + "{}" + strings.Repeat("}", k-1) }
	turns := func(k int) string { return strings.Repeat(`[{"":`, k/2) + "0" + strings.Repeat("}]", k/2) }
	counts(t, lists(n), 0, n, 0)
	// The bracket that opens is a stray one, the one that closes is the list's around, the last one stands behind all.
	counts(t, lists(n+1), 2, n, 0)
	counts(t, lists(n+2), 4, n, 0)
	counts(t, objects(n), 0, 0, n)
	// A lack in the pair, the stray bracket, and one behind all.
	counts(t, objects(n+1), 3, 0, n)
	counts(t, turns(n), 0, n/2, n/2)
	// The list is a stray one; its object is too, and so are the text, the colon, the number; then two behind all.
	x := must(turns(n + 2))
	if a, o := count(x, api.NodeArray), count(x, api.NodeObject); a != n/2 || o != n/2 || count(x, api.NodeError) == 0 {
		t.Errorf("P11.1: %d arrays, %d objects", a, o)
	}
	// Values without brackets may stand one deeper than brackets may.
	counts(t, strings.Repeat("[", n)+`1,"a",null`+strings.Repeat("]", n), 0, n, 0)
	counts(t, strings.Repeat("[", n)+"[1]"+strings.Repeat("]", n), 2, n, 0)
	// Deep enough twice: the depth falls when a bracket closes.
	twice := "[" + lists(n-1) + "," + lists(n-1) + "," + objects(n-1) + "]"
	counts(t, twice, 0, 1+2*(n-1), n-1)
	counts(t, lists(n)+" "+lists(n), 1, 2*n, 0)
	// Errors around values are no depth.
	counts(t, strings.Repeat("{", n)+strings.Repeat("}", n), n-1, 0, n)
	counts(t, strings.Repeat("{", n+1)+strings.Repeat("}", n+1), n-1+2, 0, n)
}

// pieces are what texts are made of here: one token each, that stays one beside any other.
func pieces() []string {
	return []string{"{", "}", "[", "]", ":", ",", `""`, "0", "#"}
}

// every calls a function with every row of at most n pieces.
func every(n int, f func(row []string)) {
	row := make([]string, 0, n)
	var more func()
	more = func() {
		f(row)
		if len(row) == n {
			return
		}
		for _, p := range pieces() {
			row = append(row, p)
			more()
			row = row[:len(row)-1]
		}
	}
	more()
}

func TestEveryShortText(t *testing.T) {
	every(5, func(row []string) {
		right(t, strings.Join(row, ""))
	})
	every(4, func(row []string) {
		right(t, strings.Join(row, " "))
		right(t, " "+strings.Join(row, "/**/")+"//")
	})
}

func TestEveryShortTextWithin(t *testing.T) {
	const n = api.MaxDepth
	for _, ahead := range []string{
		"[0", "[0,", `{"":0`, `{"":0,`, `{"":[0,`, `[{"":0},`, "{{", "0{",
		strings.Repeat("[", n-1), strings.Repeat("[", n), strings.Repeat("{", n-1), strings.Repeat("{", n),
		strings.Repeat(`{"":`, n-1), strings.Repeat(`{"":`, n), strings.Repeat(`[{"":`, n/2), strings.Repeat(`{"":[`, n/2),
	} {
		every(3, func(row []string) {
			s := strings.Join(row, "")
			right(t, ahead+s)
			right(t, ahead+s+"]}")
		})
	}
}

// chance makes a text by chance.
func chance(r *rand.Rand, most int) string {
	words := append(pieces(), " ", "\n", "/* x */", "// y\n", "\"", "/", "true", "null,", `"b":`, `"c":1,`, "-2.5", "],", "},", "[[", "[{", "\xff", "/*")
	s := ""
	for range r.Intn(most + 1) {
		if w := words[r.Intn(len(words))]; len(s)+len(w) <= api.MaxDoc {
			s += w
		}
	}
	return s
}

func TestTextsByChance(t *testing.T) {
	r := rand.New(rand.NewSource(11))
	for range 3000 {
		right(t, chance(r, 30))
		right(t, chance(r, 300))
		b := make([]byte, r.Intn(api.MaxDoc+1))
		for i := range b {
			b[i] = byte(r.Intn(256))
		}
		right(t, string(b))
	}
}

// What the promise says of ids: from 0 on, each node ahead of its children, these in their row.
func TestIds(t *testing.T) {
	r := rand.New(rand.NewSource(12))
	texts := []string{"", "1", "[1,[2,3],4]", `{"a":[1,{"b":2}],"c":3}`, "{1 2", "[[[", "1 2 [3"}
	for range 200 {
		texts = append(texts, chance(r, 60))
	}
	for _, s := range texts {
		x := must(s)
		if x.Root != 0 || x.Next != len(x.Nodes) {
			t.Fatalf("P11.1: %s: root %d, next %d, of %d", brief(s), x.Root, x.Next, len(x.Nodes))
		}
		var row []int
		var walk func(id int)
		walk = func(id int) {
			row = append(row, id)
			for _, k := range x.Nodes[id].Kids {
				walk(k)
			}
		}
		walk(x.Root)
		for i, id := range row {
			if id != i || x.Nodes[i].Id != i {
				t.Fatalf("P11.1: %s: ids %v", brief(s), row)
			}
		}
		if len(row) != len(x.Nodes) {
			t.Fatalf("P11.1: %s: %d of %d nodes", brief(s), len(row), len(x.Nodes))
		}
	}
}

// Of each sort of text of MaxDoc bytes there is a tree, and of one byte more there is none.
func TestUpToMaxDoc(t *testing.T) {
	const n = api.MaxDoc
	for _, c := range append(pieces(), " ", "[0 ", "[1,", `"",`, "[]", "{}", `{"":`, `"" `, "//", "/*", "x", "\xff", "\n", "0{}", "[0]{0}") {
		for _, ahead := range []string{"", "[", "{", "0", `{"":`, strings.Repeat("[", api.MaxDepth), strings.Repeat("{", api.MaxDepth)} {
			full := (ahead + strings.Repeat(c, n))[:n]
			right(t, full)
			for _, long := range []string{full + c[:1], full + " ", full + full, strings.Repeat(full, 30)} {
				if x, e := parse.Parse(long); e != api.ErrParseForm || x.Nodes != nil || x.Root != 0 || x.Next != 0 {
					t.Errorf("P11.1: %d bytes, %s: %s, %d", len(long), brief(long), brief(x), e)
				}
			}
		}
	}
	// The most nodes that a byte can make, and not more than may be: a lack, an error and its value.
	if x := must("{" + strings.Repeat("0", n-1)); len(x.Nodes) != 2+3*(n-1) {
		t.Errorf("P11.1: %d nodes", len(x.Nodes))
	}
}

// The rules of all calls.

// copyOf is a tree in memory of its own.
func copyOf(x api.Tree) api.Tree {
	nodes := append([]api.Node(nil), x.Nodes...)
	for i := range nodes {
		nodes[i].Kids = append([]int(nil), nodes[i].Kids...)
	}
	x.Nodes = nodes
	return x
}

// spoil writes over a tree, its spare room too.
func spoil(x api.Tree) {
	for i := range x.Nodes {
		kids := x.Nodes[i].Kids[:cap(x.Nodes[i].Kids)]
		for j := range kids {
			kids[j] = 77
		}
	}
	nodes := x.Nodes[:cap(x.Nodes)]
	for i := range nodes {
		nodes[i] = api.Node{Id: 77, Kind: 77, From: 77, To: 77}
	}
}

func TestTreesAreNewMemory(t *testing.T) {
	r := rand.New(rand.NewSource(13))
	texts := []string{"", "1", "[1,2,3,4,5]", `{"a":[1,{"b":2}],"c":3}`, "{1 2", "[[[[1,2],3],4],5]", "1 2 3 [4 5 6]"}
	for range 200 {
		texts = append(texts, chance(r, 100))
	}
	for _, s := range texts {
		one, two := must(s), must(s)
		want := copyOf(one)
		spoil(one)
		if !same(two, want) || !same(must(s), want) {
			t.Fatalf("%s: trees share memory", brief(s))
		}
		// Each list of one tree for itself: the others, and the nodes, do not change with it.
		for i := range two.Nodes {
			was := two.Nodes[i].Kids
			all := was[:cap(was)]
			for j := range all {
				all[j] = -1
			}
			for j := range want.Nodes[i].Kids {
				was[j] = want.Nodes[i].Kids[j]
			}
			if !same(two, want) {
				t.Fatalf("%s: lists of one tree share memory", brief(s))
			}
		}
	}
}

func TestCallsAtOneTime(t *testing.T) {
	s := `{"a":[1,{"b":2}],"c":3 # ] 4`
	want := plainly(s)
	var right atomic.Int64
	var group sync.WaitGroup
	for range 8 {
		group.Add(1)
		go func() {
			defer group.Done()
			for range 100 {
				got, e := parse.Parse(s)
				none, f := parse.Parse(strings.Repeat(" ", api.MaxDoc+1))
				if same(got, want) && e == api.OK && none.Nodes == nil && f == api.ErrParseForm && parse.May(want, len(s)) && !parse.May(want, len(s)+1) {
					right.Add(1)
				}
			}
		}()
	}
	group.Wait()
	if right.Load() != 800 {
		t.Errorf("%d of 800 calls were right", right.Load())
	}
}
