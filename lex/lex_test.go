package lex_test

import (
	"fmt"
	"math/rand"
	"regexp"
	"slices"
	"strings"
	"sync"
	"sync/atomic"
	"testing"

	"minuet/api"
	"minuet/lex"
)

// A token is written as its kind's letter and its bytes: "wtrue" is a TokWord of four bytes.

// kinds are the letters of the kinds.
var kinds = map[byte]int{
	'{': api.TokOpen,
	'}': api.TokClose,
	'[': api.TokBegin,
	']': api.TokEnd,
	':': api.TokColon,
	',': api.TokComma,
	't': api.TokText,
	'n': api.TokNumber,
	'w': api.TokWord,
	'r': api.TokRemark,
	'b': api.TokBlank,
	'x': api.TokBad,
}

// whole is the text of written tokens, one behind the other, and these tokens.
func whole(written []string) (string, []api.Token) {
	s := ""
	var ts []api.Token
	for _, w := range written {
		kind, known := kinds[w[0]]
		if !known {
			panic("no kind of " + w)
		}
		ts = append(ts, api.Token{Kind: kind, From: len(s), To: len(s) + len(w) - 1})
		s += w[1:]
	}
	return s, ts
}

// brief is what a message shows of what may be long.
func brief(x any) string {
	s := fmt.Sprintf("%+q", fmt.Sprint(x))
	if len(s) > 200 {
		s = s[:200] + " .."
	}
	return s
}

// tells: does Tokens answer just these of a text?
func tells(t *testing.T, s string, want []api.Token) {
	t.Helper()
	if got, e := lex.Tokens(s); !slices.Equal(got, want) || e != api.OK {
		t.Errorf("P9.1: %s: %s, %d, want %s", brief(s), brief(got), e, brief(want))
	}
}

// reads: is the text of these written tokens read as just these?
func reads(t *testing.T, written ...string) {
	t.Helper()
	s, want := whole(written)
	tells(t, s, want)
}

// refuses: is a text none that is read?
func refuses(t *testing.T, s string) {
	t.Helper()
	if got, e := lex.Tokens(s); got != nil || e != api.ErrLexForm {
		t.Errorf("P9.1: %d bytes, %s: %s, %d", len(s), brief(s), brief(got), e)
	}
}

// sample is a text with tokens of each kind.
func sample() []string {
	return []string{
		"{{", "t\"a\\\"b\"", "::", "b ", "[[", "n-1.5e+7", ",,", "wtrue", "]]", "b\r\n\t", "r/* * /* */", "}}", "xtruth", "x/", "x#", "r// \"end\"",
	}
}

// The first calls of all, at one time: it stands first so that no other test has made what is made once.
func TestFirstCallsAtOneTime(t *testing.T) {
	s, want := whole(sample())
	var right atomic.Int64
	var start, group sync.WaitGroup
	start.Add(1)
	for range 16 {
		group.Add(1)
		go func() {
			defer group.Done()
			start.Wait()
			for range 50 {
				got, e := lex.Tokens(s)
				none, f := lex.Tokens(s + strings.Repeat(" ", api.MaxDoc))
				if slices.Equal(got, want) && e == api.OK && none == nil && f == api.ErrLexForm {
					right.Add(1)
				}
			}
		}()
	}
	start.Done()
	group.Wait()
	if right.Load() != 800 {
		t.Errorf("%d of 800 calls were right", right.Load())
	}
}

// P9.1, row by row.

func TestNothing(t *testing.T) {
	tells(t, "", nil)
}

func TestSigns(t *testing.T) {
	reads(t, "{{", "}}", "[[", "]]", "::", ",,")
	reads(t, ",,", "::", "]]", "[[", "}}", "{{")
	reads(t, "{{", "{{", "}}", "}}")
	reads(t, ",,", ",,", "b ", "::", "::")
}

func TestBlanks(t *testing.T) {
	for _, c := range []string{" ", "\t", "\n", "\r"} {
		reads(t, "b"+c)
		reads(t, "b"+c+c+c)
		reads(t, "[[", "b"+c, "]]")
		for _, d := range []string{" ", "\t", "\n", "\r"} {
			reads(t, "b"+c+d)
			reads(t, "n1", "b"+c+d+c, "n2", "b"+d)
		}
	}
	reads(t, "b \t\n\r \r\n\t ")
	// Other bytes that elsewhere count as blank end the blanks.
	reads(t, "b ", "x\v", "b ", "x\f", "b ", "x\x00", "b ", "x\x85", "b ", "x\xc2", "x\xa0", "b ")
}

func TestTexts(t *testing.T) {
	for _, s := range []string{
		`""`, `"a"`, `"abc"`, `" "`, `"{}[]:,"`, `"//"`, `"/*"`, `"*/"`, `"true"`, `"-1"`, "\"\t\r\"", "\"\x00\x01\x7f\x80\xff\"", `"é"`,
		`"\""`, `"\\"`, `"\\\""`, `"\\\\"`, `"a\"b"`, `"\n"`, `"\u0041"`, `"\x"`, `"\é"`, "\"\\\r\"", "\"\\\x00\"", "\"\\\xff\"",
	} {
		reads(t, "t"+s)
		reads(t, "t"+s, "t"+s)
		reads(t, "t"+s, "xx", "t"+s)
		reads(t, "b\n", "t"+s, "b\n", "n1", "t"+s)
	}
	// Behind a \ that was taken along a " ends the text; what comes then begins anew.
	reads(t, `t"\\"`, "xx")
	reads(t, `t"\\"`, `x"`)
	reads(t, `t"\""`, `x"`)
	reads(t, `t""`, `x"`)
	reads(t, `t"a"`, `x\`, `x"`)
}

func TestTextsWithoutTheirEnd(t *testing.T) {
	for _, s := range []string{
		`"`, `"a`, `"abc`, `" `, `"//`, `"/* */`, `"{`, "\"\r", `"é`, "\"\xff",
		`"\"`, `"a\"`, `"a\"b`, `"\\\"`, `"\\`, `"a\\`, `"\`, `"a\`, `"a\\\`,
	} {
		reads(t, "x"+s)
		reads(t, "x"+s, "b\n")
		reads(t, "x"+s, "b\n ", "n1")
		reads(t, "x"+s, "b\n", `x"`)
		reads(t, "x"+s, "b\n", "t"+`"a"`, "b\n", "x"+s)
	}
}

func TestRemarksOfOneLine(t *testing.T) {
	for _, s := range []string{"//", "///", "// ", "// x", "//\r", "//\"", "// \"a\" 1", "///*", "//*/", "// /* x", "//\\", "//\x00\xff", "// é"} {
		reads(t, "r"+s)
		reads(t, "r"+s, "b\n")
		reads(t, "r"+s, "b\n\n", "r"+s)
		reads(t, "n1", "r"+s, "b\n", "n2")
		reads(t, "r"+s, "b\n", "t\"a\"")
	}
}

func TestRemarksOfManyLines(t *testing.T) {
	for _, s := range []string{"/**/", "/***/", "/****/", "/*/*/", "/* */", "/*\n*/", "/*\"*/", "/*//*/", "/* * / */", "/*/**/", "/*\\*/", "/*\x00\xff\n\n*/", "/* é */"} {
		reads(t, "r"+s)
		reads(t, "r"+s, "r"+s)
		reads(t, "n1", "r"+s, "n2", "b\n", "r"+s)
		reads(t, "r"+s, "x*", "x/")
		reads(t, "r"+s, "x/")
		reads(t, "r"+s, "r// ", "b\n")
	}
	// The first */ ends it.
	reads(t, "r/* */", "b ", "x*", "x/")
	reads(t, "r/*/*/", "x*", "x/")
}

func TestRemarksWithoutTheirEnd(t *testing.T) {
	for _, s := range []string{"/*", "/*/", "/* ", "/**", "/* /", "/* * /", "/*/ 1", "/*\n", "/*\n\n1", "/*\"*\"", "/*/\n//*", "/* true {}", "/*\xff"} {
		reads(t, "x"+s)
		reads(t, "b\n", "x"+s)
		reads(t, "r/**/", "x"+s)
		reads(t, "r//", "b\n", "x"+s)
	}
}

func TestSlashesAlone(t *testing.T) {
	reads(t, "x/")
	reads(t, "x/", "b ", "x/")
	reads(t, "x/", "n1", "x/", "xx", "x/", "t\"\"", "x/")
	reads(t, "x/", "b\n", "x/")
	reads(t, "x/", "x\\", "x/", "{{", "x/", "x\xff")
	reads(t, "x*", "x/")
	reads(t, "x*", "r//")
}

func TestWords(t *testing.T) {
	for _, s := range []string{"true", "false", "null"} {
		reads(t, "w"+s)
		reads(t, "w"+s, "b ", "w"+s)
		reads(t, "w"+s, ",,", "w"+s)
		reads(t, "w"+s, "n1", "w"+s, "n-0", "xe")
		reads(t, "w"+s, "t\"\"", "w"+s, "r//")
		reads(t, "w"+s, "x\xc3", "x\xa9", "w"+s, "x.", "w"+s, "x'")
		reads(t, "x"+s+s)
		reads(t, "x"+strings.ToUpper(s))
		reads(t, "x"+strings.ToUpper(s[:1])+s[1:])
		for i := range len(s) {
			if i > 0 {
				reads(t, "x"+s[:i])
				reads(t, "x"+s[i:])
			}
			reads(t, "x"+s[:i]+s[i+1:])
			reads(t, "x"+s[:i]+strings.ToUpper(s[i:i+1])+s[i+1:])
		}
		for i := range len(s) + 1 {
			for _, c := range []string{"_", "a", "z", "A", "Z", "e"} {
				reads(t, "x"+s[:i]+c+s[i:])
			}
		}
	}
	for _, s := range []string{"_", "__", "a", "z", "A", "Z", "e", "E", "abc_XYZ", "abcdefghijklmnopqrstuvwxyz", "ABCDEFGHIJKLMNOPQRSTUVWXYZ", "truth", "nil", "truefalse"} {
		reads(t, "x"+s)
		reads(t, "x"+s, "n7", "x"+s, "b ", "x"+s)
	}
	// Next to the letters, and letters of other tongues, are no letters.
	reads(t, "xa", "x@", "xa", "[[", "xa", "x`", "xa", "{{", "xa", "x$", "xa", "x\xc3", "x\xa9", "xa")
}

func TestNumbers(t *testing.T) {
	for _, minus := range []string{"", "-"} {
		for _, whole := range []string{"0", "1", "9", "10", "90", "123", "1000000000000000000000000000000"} {
			for _, point := range []string{"", ".0", ".5", ".00", ".050", ".1234567890"} {
				for _, power := range []string{"", "e0", "e5", "e05", "e+5", "e-5", "E5", "E+05", "E-00", "e1234567890"} {
					reads(t, "n"+minus+whole+point+power)
					reads(t, "n"+minus+whole+point+power, ",,", "n-0", "b ", "n"+minus+whole+point+power, "x+")
				}
			}
		}
	}
}

// What is left behind the longest number begins anew.
func TestNumbersAndWhatIsLeft(t *testing.T) {
	for _, row := range [][]string{
		{"x-"}, {"x-", "x-"}, {"x-", "n-1"}, {"x-", "b ", "n1"}, {"x-", "xx"}, {"x-", "x.", "n5"}, {"x-", "xe", "n5"}, {"x-", "wtrue"}, {"x-", "x+", "n1"}, {"x-", "b\n"},
		{"n0", "n0"}, {"n0", "n1"}, {"n0", "n0", "n0"}, {"n0", "n10"}, {"n-0", "n1"}, {"n-0", "n0"}, {"n0", "n-0"}, {"n1", "n-1"}, {"n0", "n0.5"}, {"n0", "n1e5"},
		{"n1", "x."}, {"n1", "x.", "x."}, {"n1", "x.", "xe", "n5"}, {"n1", "x.", "xx"}, {"n1", "x.", "n-5"}, {"n0", "x."}, {"n-0", "x."},
		{"x.", "n5"}, {"x.", "n0", "n5"}, {"x.", "n5.5"}, {"x."},
		{"n1.5", "x."}, {"n1.5", "x.", "n5"}, {"n1.5", "xe"}, {"n1.5", "xe", "x."}, {"n1.5", "n-1"}, {"n1.05", "b ", "n0.5"},
		{"n1", "xe"}, {"n1", "xE"}, {"n1", "xe", "x+"}, {"n1", "xE", "x+"}, {"n1", "xe", "x-"}, {"n1e-0"}, {"n1", "xe", "x+", "x+", "n5"}, {"n1", "xe", "x+", "n-5"},
		{"n1", "xe", "x.", "n5"}, {"n1", "xee", "n5"}, {"n1", "xex"}, {"n1", "xe_", "n5"}, {"n1", "xe", "b ", "n5"}, {"n1", "xE", "x-", "b\n"}, {"n1", "xe", "x+", "xe", "n5"},
		{"n1e5", "x.", "n5"}, {"n1e5", "xe", "n5"}, {"n1e+5", "x+", "n5"}, {"n1e-5", "n-5"}, {"n1E-7"}, {"n1E-7", "xE", "x-"}, {"n0e0", "xe"}, {"n1e00"},
		{"x+", "n1"}, {"x+"}, {"n1", "x+", "n1"}, {"n1", "xx"}, {"n1", "x_"}, {"n0", "xx", "n10"}, {"n0", "xb", "n1"}, {"n1", "wtrue"}, {"n1", "t\"\""}, {"n1", "r/**/"}, {"n1", "x/"}, {"n1", "x\xff"},
	} {
		reads(t, row...)
		reads(t, slices.Concat([]string{"[["}, row, []string{"]]"})...)
	}
}

// Every byte alone, and between two others, is one token of its kind.
func TestEveryByte(t *testing.T) {
	alone := func(c int) string {
		switch {
		case strings.IndexByte("{}[]:,", byte(c)) >= 0:
			return string([]byte{byte(c)})
		case c == 32 || c == 9 || c == 10 || c == 13:
			return "b"
		case c >= '0' && c <= '9':
			return "n"
		}
		return "x"
	}
	for c := range 256 {
		b := string([]byte{byte(c)})
		reads(t, alone(c)+b)
		// Neither a " nor a / takes what stands behind the ].
		if c != '"' {
			reads(t, "[[", alone(c)+b, "]]")
		}
	}
	reads(t, "[[", "x\"]")
}

// rule is a row of the chapter's table, as an expression.
type rule struct {
	is   *regexp.Regexp
	kind int
}

// rules are the chapter's table, but for single bytes; the first that fits is taken.
func rules() []rule {
	return []rule{
		{regexp.MustCompile(`^[ \t\n\r]+`), api.TokBlank},
		{regexp.MustCompile(`^"(?:[^"\\\n]|\\[^\n])*"`), api.TokText},
		{regexp.MustCompile(`^"[^\n]*`), api.TokBad},
		{regexp.MustCompile(`^//[^\n]*`), api.TokRemark},
		{regexp.MustCompile(`(?s)^/\*.*?\*/`), api.TokRemark},
		{regexp.MustCompile(`(?s)^/\*.*`), api.TokBad},
		{regexp.MustCompile(`^[A-Za-z_]+`), api.TokWord},
		{regexp.MustCompile(`^-?(?:0|[1-9][0-9]*)(?:\.[0-9]+)?(?:[eE][+-]?[0-9]+)?`), api.TokNumber},
	}
}

// ahead is the kind and the length of a text's first token, by the rules.
func ahead(s string, by []rule) (int, int) {
	for _, r := range by {
		found := r.is.FindString(s)
		if found == "" {
			continue
		}
		if r.kind == api.TokWord && found != "true" && found != "false" && found != "null" {
			return api.TokBad, len(found)
		}
		return r.kind, len(found)
	}
	if strings.IndexByte("{}[]:,", s[0]) >= 0 {
		return kinds[s[0]], 1
	}
	return api.TokBad, 1
}

// model is a text's tokens, by the rules.
func model(s string, by []rule) []api.Token {
	var ts []api.Token
	for at := 0; at < len(s); {
		kind, n := ahead(s[at:], by)
		ts = append(ts, api.Token{Kind: kind, From: at, To: at + n})
		at += n
	}
	return ts
}

// texts is every text of at most n bytes made of these letters.
func texts(letters string, n int) []string {
	found := []string{""}
	for at := 0; at < len(found) && len(found[at]) < n; at++ {
		for i := range len(letters) {
			found = append(found, found[at]+letters[i:i+1])
		}
	}
	return found
}

// Every short text of the bytes that meet in one row of the table.
func TestEveryShortText(t *testing.T) {
	by := rules()
	for letters, n := range map[string]int{
		"\"\\\na":       7,
		"/*\na\"":       6,
		"/*":            10,
		"-+.e01":        5,
		"-.E09x":        5,
		"{}[]:, \n\x00": 3,
		"\"\\/*\n t1-":  4,
		"nul_N1":        4,
	} {
		for _, s := range texts(letters, n) {
			tells(t, s, model(s, by))
			if t.Failed() {
				return
			}
		}
	}
}

func TestEveryTwoBytes(t *testing.T) {
	by := rules()
	for c := range 256 {
		for d := range 256 {
			s := string([]byte{byte(c), byte(d)})
			tells(t, s, model(s, by))
		}
	}
}

// Long texts of pieces by chance, always the same ones; each token of them begins where the one ahead ends.
func TestLongTexts(t *testing.T) {
	by := rules()
	pieces := []string{"{", "}", "[", "]", ":", ",", " ", "\n", "\r\n", "\t", "\"", "\"a\"", "\\", "\\\"", "/", "//", "/*", "*/", "*", "true", "false", "null", "e", "E", "_", "x", "-", "+", ".", "0", "1", "29", "1.5e-7", "\x00", "\xff", "é", "#"}
	r := rand.New(rand.NewSource(9))
	for range 2000 {
		s := ""
		for most := r.Intn(api.MaxDoc + 1); len(s) < most; {
			s += pieces[r.Intn(len(pieces))]
		}
		s = s[:min(len(s), api.MaxDoc)]
		tells(t, s, model(s, by))
		ts, _ := lex.Tokens(s)
		at := 0
		for _, x := range ts {
			if x.From != at || x.To <= at {
				t.Errorf("P9.1: %s: %v behind %d", brief(s), x, at)
			}
			at = x.To
		}
		if at != len(s) || t.Failed() {
			t.Fatalf("P9.1: %s: up to %d of %d", brief(s), at, len(s))
		}
	}
}

// longest are texts of MaxDoc bytes, as written tokens.
func longest() map[string][]string {
	const n = api.MaxDoc
	fill := func(s string, k int) string { return strings.Repeat(s, k) }
	many := func(k int, row ...string) []string { return slices.Repeat(row, k) }
	return map[string][]string{
		"signs":                   many(n/6, "{{", "}}", "[[", "]]", "::", ",,"),
		"one sign":                many(n, "{{"),
		"blanks":                  {"b" + fill(" ", n)},
		"blanks of all bytes":     {"b" + fill(" \t\r\n", n/4)},
		"one text":                {`t"` + fill("a", n-2) + `"`},
		"one text of \\":          {`t"` + fill(`\\`, (n-2)/2) + `"`},
		"empty texts":             many(n/2, `t""`),
		"a text without its end":  {`x"` + fill("a", n-1)},
		"a text with \\ at last":  {`x"` + fill(`\"`, (n-2)/2) + `\`},
		"texts without their end": many(n/2, `x"`, "b\n"),
		"a remark of one line":    {"r//" + fill("x", n-2)},
		"a remark, then 10":       {"r//" + fill("x", n-3), "b\n"},
		"a remark of many lines":  {"r/*" + fill("\n", n-4) + "*/"},
		"empty remarks":           many(n/4, "r/**/"),
		"a remark without end":    {"x/*" + fill("*", n-2)},
		"a remark without end, /": {"x/*" + fill("/", n-2)},
		"slashes":                 many(n/2, "x/", "b "),
		"a / at last":             {"b" + fill(" ", n-1), "x/"},
		"a bad word":              {"x" + fill("a", n)},
		"a bad word of trues":     {"x" + fill("true", n/4)},
		"words":                   many(n/5, "wtrue", "b "),
		"one number":              {"n" + fill("1", n)},
		"one number, minus":       {"n-" + fill("1", n-1)},
		"one number, point":       {"n0." + fill("0", n-2)},
		"one number, power":       {"n0e+" + fill("0", n-3)},
		"zeros":                   many(n, "n0"),
		"minuses":                 many(n, "x-"),
		"a number, e at last":     {"n" + fill("1", n-1), "xe"},
		"a number, point at last": {"n" + fill("1", n-1), "x."},
		"a number, sign at last":  {"n" + fill("1", n-2), "xe", "x-"},
		"points":                  many(n/4, "n1.1", "x."),
		"other bytes":             many(n/2, "x\xc3", "x\xa9"),
	}
}

func TestUpToMaxDoc(t *testing.T) {
	for name, row := range longest() {
		t.Run(name, func(t *testing.T) {
			s, want := whole(row)
			if len(s) != api.MaxDoc {
				t.Fatalf("%d bytes", len(s))
			}
			tells(t, s, want)
			refuses(t, s+" ")
			refuses(t, " "+s)
			refuses(t, s+s[:1])
			refuses(t, s+s)
		})
	}
}

func TestRefusesTooMuch(t *testing.T) {
	for _, c := range []string{" ", "a", "1", "0", "{", "\"", "//", "/*", "-", "\n", "\x00", "\xff", "true", `"a"`, "\\"} {
		for _, n := range []int{api.MaxDoc + 1, api.MaxDoc + 2, 2 * api.MaxDoc, api.MaxLen, api.MaxLen + 1, 1 << 20} {
			refuses(t, strings.Repeat(c, n)[:n])
		}
	}
}

// The rules of all calls.

// spoil writes over a list, its spare room too.
func spoil(ts []api.Token) {
	ts = ts[:cap(ts)]
	for i := range ts {
		ts[i] = api.Token{Kind: 77, From: 77, To: 77}
	}
}

// A list that was answered is its caller's own: neither an earlier answer nor a later one changes with it.
func TestAnswersAreNewMemory(t *testing.T) {
	all := longest()
	all["sample"] = sample()
	all["one"] = []string{"{{"}
	for name, row := range all {
		t.Run(name, func(t *testing.T) {
			s, want := whole(row)
			one, _ := lex.Tokens(s)
			two, _ := lex.Tokens(s)
			spoil(one)
			if !slices.Equal(two, want) {
				t.Errorf("%s: shares memory: %s", brief(s), brief(two))
			}
			tells(t, s, want)
			spoil(two)
			tells(t, s, want)
		})
	}
}

// What a call answers does not hang on what was asked ahead of it.
func TestCallsByTurns(t *testing.T) {
	s, want := whole(sample())
	for _, row := range longest() {
		other, theirs := whole(row)
		tells(t, other, theirs)
		tells(t, s, want)
		refuses(t, other+s)
		tells(t, "", nil)
		tells(t, s, want)
	}
}
