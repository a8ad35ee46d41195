package good_test

import (
	"encoding/json"
	"fmt"
	"math/rand"
	"regexp"
	"slices"
	"strings"
	"sync"
	"sync/atomic"
	"testing"

	"minuet/api"
	"minuet/good"
	"minuet/lex"
	"minuet/parse"
)

// brief is what a message shows of a text that may be long.
func brief(s string) string {
	if len(s) > 200 {
		return fmt.Sprintf("%+q .. (%d bytes)", s[:200], len(s))
	}
	return fmt.Sprintf("%+q", s)
}

// letters writes a text's tokens, a letter each: t is a text, v a number or a word, # what is none.
func letters(s string) string {
	ts, e := lex.Tokens(s)
	if e != api.OK {
		panic("no tokens")
	}
	out := ""
	for _, x := range ts {
		if x.Kind != api.TokBlank && x.Kind != api.TokRemark {
			out += string("{}[]:,tvv__#"[x.Kind])
		}
	}
	return out
}

// deepest tells how deep the brackets of these letters are.
func deepest(row string) int {
	most, now := 0, 0
	for _, c := range row {
		switch c {
		case '{', '[':
			now++
		case '}', ']':
			now--
		}
		most = max(most, now)
	}
	return most
}

// inner is a value in brackets that has none within.
var inner = regexp.MustCompile(`\[([tv](,[tv])*)?\]|\{(t:[tv](,t:[tv])*)?\}`)

// plainly is the promise from within to without: each innermost value in brackets becomes a letter, until none is left.
func plainly(s string) bool {
	row := letters(s)
	deep := deepest(row)
	for {
		less := inner.ReplaceAllString(row, "v")
		if less == row {
			return (row == "t" || row == "v") && deep <= api.MaxDepth
		}
		row = less
	}
}

// errors counts the errors in a text's tree.
func errors(s string) int {
	x, e := parse.Parse(s)
	if e != api.OK {
		panic("no tree")
	}
	n := 0
	for _, y := range x.Nodes {
		if y.Kind == api.NodeError {
			n++
		}
	}
	return n
}

// is: does Good answer this, and is the tree without errors just then?
func is(t *testing.T, s string, want bool) {
	t.Helper()
	got, e := good.Good(s)
	if got != want || e != api.OK {
		t.Errorf("P12.1: %s: %v, %d, want %v", brief(s), got, e, want)
	}
	if n := errors(s); got != (n == 0) {
		t.Errorf("P12.2: %s: %v, %d errors", brief(s), got, n)
	}
}

// right is is, by the plain form of the promise; it tells what that says.
func right(t *testing.T, s string) bool {
	t.Helper()
	want := plainly(s)
	is(t, s, want)
	if t.Failed() {
		t.FailNow()
	}
	return want
}

// all: is each of these texts, or is none of them, of the language, and do both forms say so?
func all(t *testing.T, want bool, texts ...string) {
	t.Helper()
	for _, s := range texts {
		is(t, s, want)
		if plainly(s) != want {
			t.Errorf("%s: the plain form says %v", brief(s), !want)
		}
	}
}

// P12.1: ordinary inputs.

func TestValues(t *testing.T) {
	all(t, true,
		`""`, `"a"`, `"a\"b"`, `"\\"`, `"{[:,]}"`, `"// x"`, `"/*"`, "\"\xff\x00\"", `"\q"`,
		"0", "-0", "12", "-1.5", "1e5", "1.25E-7", "-10.0e+10",
		"true", "false", "null",
		"{}", "[]",
	)
}

func TestListsAndObjects(t *testing.T) {
	all(t, true,
		"[1]", "[1,2]", "[1,2,3]", `["a"]`, `["a",1,null,true]`, `["a","b"]`,
		`{"a":1}`, `{"a":"b"}`, `{"":""}`, `{"a":1,"b":2}`, `{"a":1,"b":2,"c":null}`,
		"[[]]", "[[],[]]", "[{}]", "[{},{}]", "[[],{}]", "[[1],[2,3],4]", "[1,[2,[3,[]]]]",
		`{"a":[]}`, `{"a":{}}`, `{"a":[1,2]}`, `{"a":{"b":{"c":[]}}}`, `{"a":[],"b":{},"c":[{}]}`,
		`[{"a":1},{"b":[2]}]`, `{"a":[{"b":1},{"c":[{"d":2}]}]}`,
	)
}

func TestOneNameTwice(t *testing.T) {
	all(t, true, `{"a":1,"a":1}`, `{"a":1,"a":2,"a":[]}`, `{"":0,"":0}`, `{"a":{"a":1},"a":2}`)
}

func TestBlanksAndRemarks(t *testing.T) {
	for _, gap := range []string{" ", "\n", "\t\r\n ", "/**/", "/* ] */", "//\n", "// } \"\n", " /* x */ // y\n "} {
		for _, tokens := range [][]string{
			{"1"}, {`"a"`}, {"null"}, {"[", "]"}, {"{", "}"}, {"[", "1", ",", "2", "]"},
			{"{", `"a"`, ":", "1", ",", `"b"`, ":", "[", "]", "}"},
		} {
			for at := range len(tokens) + 1 {
				all(t, true, strings.Join(tokens[:at], "")+gap+strings.Join(tokens[at:], ""))
			}
			all(t, true, strings.Join(tokens, gap), gap+strings.Join(tokens, gap)+gap)
		}
		// Neither is a comma, a colon or a value.
		all(t, false, "["+gap+",1]", "[1"+gap+"2]", "[1,"+gap+"]", `{"a"`+gap+"1}", `{"a":`+gap+"}", "1"+gap+"2", "["+gap)
	}
	all(t, true, "1//", "1// x", "[]/**/", "null /* x */ // y")
}

// P12.1: the edges.

func TestNothing(t *testing.T) {
	all(t, false, "", " ", "\n", "\t\r\n ", "//", "// 1", "//\n", "/**/", "/* 1 */", " /* [] */ // {}\n ")
}

func TestTwoValues(t *testing.T) {
	all(t, false,
		"1 2", "1,2", "1:2", `"a""b"`, `"a":1`, "null null", "[][]", "{}{}", "[]{}", "[],[]", "1[]", "[]1", `{"a":1}{"b":2}`,
		"1/**/2", "1//\n2", "truefalse", "01", "1-2", "1 2 3",
	)
}

func TestCommas(t *testing.T) {
	all(t, false,
		",", ",1", "1,", "[],", ",[]",
		"[,]", "[,,]", "[,1]", "[1,]", "[1,2,]", "[1,,2]", "[1,,]", "[,1,2]", "[[],]", "[,[]]", "[[],,[]]", "[[,]]", "[[1,]]",
		"{,}", `{,"a":1}`, `{"a":1,}`, `{"a":1,,"b":2}`, `{"a":1,"b":2,}`, `{"a",:1}`, `{"a":,1}`, `[{"a":1,}]`, `{"a":[1,]}`,
	)
}

func TestElementsWithoutAComma(t *testing.T) {
	all(t, false,
		"[1 2]", `["a""b"]`, "[[][]]", "[{}{}]", "[1,2 3]", "[1 2,3]", "[true null]", "[[1 2]]", "[1:2]",
		`{"a":1"b":2}`, `{"a":1 "b":2}`, `{"a":{}"b":2}`, `{"a":1:"b":2}`, `[{"a":1 "b":2}]`,
	)
}

func TestBracketsThatDoNotFit(t *testing.T) {
	all(t, false,
		"[", "{", "[1", "[1,", "[[", "[[]", "[{}", `{"a":1`, `{"a":1,`, `{"a":`, `{"a"`, `{"a":[]`, `{"a":[1}`, "[1,[2]",
		"]", "}", "1]", "1}", "[]]", "{}}", "]1", "}1", "][", "}{", "[1]]", `{"a":1}}`, "]]", "}}",
		"[}", "{]", "[1}", `{"a":1]`, "[[}]", "[[]}", "[{]}", "{[}]", `{"a":[}]`, `{"a":{]}`, `{"a":1]}`, "[{}}",
	)
}

func TestPairs(t *testing.T) {
	all(t, false,
		`{"a"1}`, `{"a" "b"}`, `{"a"[]}`, `{"a",1}`, `{"a":1,"b"2}`, // no colon
		`{"a":}`, `{"a": }`, `{"a":,"b":1}`, `{"a":1,"b":}`, `{"a"::1}`, `{"a"::}`, `[{"a":}]`, // no value
		`{"a"}`, `{"a","b"}`, `{"a":1,"b"}`, `{"a","b":1}`, `{"a":{"b"}}`, `[{"a"}]`, // neither
		`["a":1]`, `[1,"a":2]`, `{"a":"b":"c"}`, `{"a":("b")}`, // a pair where none may be
	)
}

func TestElementsOfObjectsThatAreNoPairs(t *testing.T) {
	all(t, false,
		"{1}", "{1:2}", "{null}", "{null:1}", "{true:1}", "{[]}", "{{}}", "{[]:1}", "{{}:1}", "{:1}", "{:}", "{a:1}", "{'a':1}",
		`{"a":1,2}`, `{2,"a":1}`, `{"a":1,2:3}`, `{"a":1,[]}`, `{"a":1,{"b":2}}`, `[{1}]`, `{"a":{1}}`,
	)
}

func TestBadTokensAnywhere(t *testing.T) {
	rows := [][]string{
		{"1"}, {"[", "]"}, {"[", "1", ",", "2", "]"}, {"{", "}"}, {"{", `"a"`, ":", "1", ",", `"b"`, ":", "[", "]", "}"},
	}
	for _, bad := range []string{"tru", "True", "nulls", "x", "_", "e", "-", "+", ".", "#", "'", "\\", "/", "\x00", "\x7f", "\xff", "é", "(", ";"} {
		all(t, false, bad, " "+bad+" ", "["+bad+"]", `{"a":`+bad+"}", "{"+bad+":1}")
		for _, row := range rows {
			for at := range len(row) + 1 {
				all(t, false, strings.Join(slices.Insert(slices.Clone(row), at, bad), " "))
			}
		}
	}
	// What has no end takes all that is left along, or all of its line.
	for _, row := range rows {
		for at := range len(row) + 1 {
			ahead, behind := strings.Join(row[:at], ""), strings.Join(row[at:], " ")
			all(t, false, ahead+" /*"+behind, ahead+" /*/"+behind, ahead+"\"\n"+behind, ahead+"\"x\\\n"+behind)
		}
	}
	all(t, false, `"`, `"a`, `"a\"`, "\"a\n\"", "\"a\\\n\"", `["a]`, "/*", "1/*", "[1/*]", "/*/", "1/*/", "1/", "/1", "1 / 2")
	all(t, false, "-", "--1", "+1", ".5", "1.", "1.e1", "1e", "1e+", "00", "-01", "1.5.5", "0x1", "1_0", "1a", "Infinity", "NaN", "-true")
}

// turns is a value of n brackets, one within the other: lists, objects, or both by turns.
func turns(n int, inner string, pairs ...[2]string) string {
	open, shut := "", ""
	for i := range n {
		p := pairs[i%len(pairs)]
		open, shut = open+p[0], p[1]+shut
	}
	return open + inner + shut
}

func TestDepth(t *testing.T) {
	const most = api.MaxDepth
	list, object := [2]string{"[", "]"}, [2]string{`{"a":`, "}"}
	longList, longObject := [2]string{"[1,", ",2]"}, [2]string{`{"a":1,"b":`, `,"c":2}`}
	for _, pairs := range [][][2]string{{list}, {object}, {list, object}, {object, list}, {longList}, {longObject}, {longList, longObject}} {
		for n := range most + 4 {
			for _, flat := range []string{"1", `"a"`, "null"} {
				all(t, n <= most, turns(n, flat, pairs...))
			}
			for _, flat := range []string{"[]", "{}", "[1]", `{"b":2}`, "[1,2]"} {
				all(t, n+1 <= most, turns(n, flat, pairs...))
			}
			for _, bad := range []string{"[1,]", "{1}", ",", "1 2", "]", "#"} {
				all(t, false, turns(n, bad, pairs...))
			}
		}
	}
	all(t, true, turns(most, "", list))
	all(t, false, turns(most+1, "", list), turns(100, "", list), turns(api.MaxDoc/2, "", list), strings.Repeat("[", api.MaxDoc))
	// Deep enough several times: the depth falls where a bracket closes.
	deep := turns(most-1, "", list)
	all(t, true, "["+deep+","+deep+"]", `{"a":`+deep+`,"b":`+deep+"}", "[1,"+deep+",2]")
	all(t, false, "["+deep+",["+deep+"]]", `{"a":1,"b":[`+deep+"]}", "[["+deep+"],1]")
	// Brackets in texts and remarks are none.
	all(t, true, turns(most, `"[[{"`, list), turns(most, "/* [[{ */", list), turns(most, "//[\n", list))
}

func TestMaxDoc(t *testing.T) {
	const n = api.MaxDoc
	fill := func(ahead, more, behind string) string {
		s := ahead
		for len(s)+len(more)+len(behind) <= n {
			s += more
		}
		return s + strings.Repeat(" ", n-len(s)-len(behind)) + behind
	}
	in := []string{
		fill("", " ", "1"), fill("1", " ", ""), fill(`"`, "x", `"`), fill("1", "2", ""), fill("-0.", "1", ""),
		fill("[0", ",0", "]"), fill("[[]", ",[]", "]"), fill(`{"":0`, `,"":0`, "}"), fill("/*", "x", "*/1"), fill("1//", "x", ""),
		fill("[[0", ",0", "]]"), fill(`["`, `\"`, `"]`), fill("[1", "/**/", "]"),
	}
	out := []string{
		fill("", " ", ""), fill("//", "x", ""), fill("", "[", ""), fill("", "]", ""), fill("", "1 ", ""), fill("", ",", ""),
		fill("[0", ",0", ",]"), fill("[0", ",0", ""), fill(`{"":0`, `,"":0`, ",}"), fill(`"`, "x", ""), fill("", "x", ""), fill("0", "0", ""),
		fill("{", "0", "}"), fill("/*", "x", "1"), fill("1", "#", ""), fill("", "\xff", ""), fill("", "[]", ""), fill("", `{"":`, ""),
	}
	for _, s := range append(in, out...) {
		if len(s) != n {
			t.Fatalf("%s: %d bytes", brief(s), len(s))
		}
	}
	all(t, true, in...)
	all(t, false, out...)
	// Wrong inputs: one byte more, and many, whatever they are.
	for _, s := range append(in, out...) {
		for _, long := range []string{s + " ", " " + s, s + "\n", s + "1", s + "]", s + "//", s + s, strings.Repeat(s, 100)} {
			if got, e := good.Good(long); got || e != api.ErrGoodForm {
				t.Errorf("P12.1: %s: %v, %d", brief(long), got, e)
			}
		}
	}
}

func TestTooLong(t *testing.T) {
	for _, s := range []string{
		strings.Repeat(" ", api.MaxDoc) + "1", "1" + strings.Repeat(" ", api.MaxDoc), strings.Repeat(" ", api.MaxDoc+1),
		`"` + strings.Repeat("x", api.MaxDoc-1) + `"`, "[" + strings.Repeat("1,", api.MaxDoc/2-1) + "1 ]", strings.Repeat("1", api.MaxDoc+1),
		strings.Repeat("[", api.MaxDoc+1), strings.Repeat("[", 1<<20), strings.Repeat("\xff", api.MaxDoc+1),
	} {
		if got, e := good.Good(s); got || e != api.ErrGoodForm {
			t.Errorf("P12.1: %s: %v, %d", brief(s), got, e)
		}
	}
}

// P12.2: texts in the language and others, each held against its tree, by right and by all.

// pieces are what texts are made of here: one token each, that stays one beside any other.
func pieces() []string {
	return []string{"{", "}", "[", "]", ":", ",", `""`, "0", "#"}
}

// every calls a function with every row of at most n pieces.
func every(n int, f func(row []string)) {
	row := make([]string, 0, n)
	var more func()
	more = func() {
		f(row)
		if len(row) == n {
			return
		}
		for _, p := range pieces() {
			row = append(row, p)
			more()
			row = row[:len(row)-1]
		}
	}
	more()
}

func TestEveryShortText(t *testing.T) {
	yes := 0
	every(5, func(row []string) {
		// Between two numbers there is a blank, or they would be one.
		s := strings.Join(row, " ")
		got := right(t, s)
		if got != json.Valid([]byte(s)) {
			t.Fatalf("P12.1: %s: %v, unlike JSON", brief(s), got)
		}
		if got {
			yes++
		}
	})
	// "", 0, [], {}; a list of one of these four; of two that are flat; of a list of one flat; an object with one flat.
	if want := 4 + 4 + 4 + 2 + 2; yes != want {
		t.Errorf("P12.1: %d texts of the language, want %d", yes, want)
	}
}

func TestEveryShortTextWithin(t *testing.T) {
	const n = api.MaxDepth
	list, object := [2]string{"[", "]"}, [2]string{`{"":`, "}"}
	yes := 0
	for _, around := range [][2]string{
		{"[0 ", "]"}, {"[0,", "]"}, {`{"":0 `, "}"}, {`{"":0,`, "}"}, {`{"":[0,`, "]}"}, {`[{"":0},`, "]"}, {`{"" `, "}"}, {`{"":`, "}"},
		{strings.Repeat("[", n-1), strings.Repeat("]", n-1)}, {strings.Repeat("[", n), strings.Repeat("]", n)},
	} {
		every(4, func(row []string) {
			s := strings.Join(row, " ")
			if right(t, around[0]+s+around[1]) {
				yes++
			}
			right(t, around[0]+s)
		})
	}
	for _, pairs := range [][][2]string{{object}, {list, object}, {object, list}} {
		for k := n - 1; k <= n+1; k++ {
			every(3, func(row []string) {
				right(t, turns(k, strings.Join(row, " "), pairs...))
			})
		}
	}
	if yes == 0 {
		t.Error("none of the language")
	}
}

// gap makes blanks and remarks by chance, or none.
func gap(r *rand.Rand) string {
	return []string{"", "", "", " ", "\n", "/* [ */", "//,\n"}[r.Intn(7)]
}

// value makes the tokens of a value of the language by chance, with brackets at most as deep as told.
func value(r *rand.Rand, deep int) []string {
	flat := []string{`""`, `"a\""`, "0", "-1.5e+3", "true", "null"}
	if deep == 0 || r.Intn(3) == 0 {
		return []string{flat[r.Intn(len(flat))]}
	}
	open, shut := "[", "]"
	if r.Intn(2) == 0 {
		open, shut = "{", "}"
	}
	row := []string{open}
	for i := range r.Intn(4) {
		if i > 0 {
			row = append(row, ",")
		}
		if open == "{" {
			row = append(row, flat[r.Intn(2)], ":")
		}
		row = append(row, value(r, deep-1)...)
	}
	return append(row, shut)
}

// spaced writes tokens with gaps by chance, and with a blank where two would else be one.
func spaced(r *rand.Rand, row []string) string {
	s := gap(r)
	for _, x := range row {
		s += x + gap(r) + " "
	}
	return s
}

func TestValuesByChance(t *testing.T) {
	r := rand.New(rand.NewSource(12))
	yes, deep := 0, 0
	for range 3000 {
		row := value(r, 1+r.Intn(api.MaxDepth))
		s := spaced(r, row)
		if len(s) > api.MaxDoc {
			continue
		}
		if !right(t, s) {
			t.Fatalf("%s: the plain form says no", brief(s))
		}
		yes++
		deep = max(deep, deepest(letters(s)))
		// One token less, one more, another one, and two in each other's place.
		at, with := r.Intn(len(row)), pieces()[r.Intn(len(pieces()))]
		less := slices.Delete(slices.Clone(row), at, at+1)
		more := slices.Insert(slices.Clone(row), at, with)
		other := slices.Clone(row)
		other[at] = with
		swapped := slices.Clone(row)
		to := r.Intn(len(row))
		swapped[at], swapped[to] = swapped[to], swapped[at]
		for _, turned := range [][]string{less, more, other, swapped} {
			if s := spaced(r, turned); len(s) <= api.MaxDoc {
				right(t, s)
			}
		}
	}
	if yes < 1000 || deep < api.MaxDepth/2 {
		t.Errorf("%d values, %d deep", yes, deep)
	}
}

func TestTextsByChance(t *testing.T) {
	r := rand.New(rand.NewSource(13))
	words := append(pieces(), " ", "\n", "/* x */", "// y\n", "\"", "/", "true", "null,", `"b":`, `"c":1,`, "-2.5", "],", "},", "[[", "[{", "\xff", "/*")
	for range 3000 {
		s := ""
		for range r.Intn(40) {
			s += words[r.Intn(len(words))]
		}
		right(t, s)
		b := make([]byte, r.Intn(api.MaxDoc+1))
		for i := range b {
			b[i] = byte(r.Intn(256))
		}
		right(t, string(b))
		for i := range b {
			b[i] = "{}[]:,\"01 /*\n\\t"[r.Intn(15)]
		}
		right(t, string(b[:len(b)/8]))
	}
}

// The rules of all calls.

func TestCallsAtOneTime(t *testing.T) {
	var right atomic.Int64
	var group sync.WaitGroup
	for range 8 {
		group.Add(1)
		go func() {
			defer group.Done()
			for range 100 {
				yes, e := good.Good(`{"a":[1,{"b":2}],"c":3}`)
				no, f := good.Good(`{"a":[1,{"b":2}],"c":3,}`)
				long, g := good.Good(strings.Repeat(" ", api.MaxDoc) + "1")
				if yes && e == api.OK && !no && f == api.OK && !long && g == api.ErrGoodForm {
					right.Add(1)
				}
			}
		}()
	}
	group.Wait()
	if right.Load() != 800 {
		t.Errorf("%d of 800 calls were right", right.Load())
	}
}
