package token_test

import (
	"testing"

	"minuet/api"
	"minuet/token"
)

// texts is every text of one to n bytes made of these letters.
func texts(letters string, n int) []string {
	found := []string{""}
	for at := 0; at < len(found) && len(found[at]) < n; at++ {
		for i := range len(letters) {
			found = append(found, found[at]+letters[i:i+1])
		}
	}
	return found[1:]
}

func TestFirst(t *testing.T) {
	for s, want := range map[string][2]int{
		"{":          {api.TokOpen, 1},
		"}}":         {api.TokClose, 1},
		"[1":         {api.TokBegin, 1},
		"]":          {api.TokEnd, 1},
		"::":         {api.TokColon, 1},
		",1":         {api.TokComma, 1},
		`"a\"b"c"`:   {api.TokText, 6},
		"\"a\n\"":    {api.TokBad, 2},
		"-1.50e+7e1": {api.TokNumber, 8},
		"01":         {api.TokNumber, 1},
		"1e+":        {api.TokNumber, 1},
		"--1":        {api.TokBad, 1},
		"true1":      {api.TokWord, 4},
		"trues":      {api.TokBad, 5},
		"/* * */*/":  {api.TokRemark, 7},
		"//*/\n":     {api.TokRemark, 4},
		"/*/":        {api.TokBad, 3},
		"/ /":        {api.TokBad, 1},
		" \t\r\n1":   {api.TokBlank, 4},
		"\xff\xff":   {api.TokBad, 1},
	} {
		if kind, n := token.First(s); kind != want[0] || n != want[1] {
			t.Errorf("%q: %d, %d, want %v", s, kind, n, want)
		}
	}
}

// What a byte may begin is what it begins alone, but where it needs more to begin that, or is too short a word.
func TestBegun(t *testing.T) {
	for c := range 256 {
		b := byte(c)
		kind, n := token.First(string([]byte{b}))
		switch begun := token.Begun(b); {
		case n != 1:
			t.Errorf("byte %d: %d long", c, n)
		case kind == api.TokBad:
			if begun != api.TokBad && begun != api.TokText && begun != api.TokNumber && begun != api.TokWord && begun != api.TokRemark {
				t.Errorf("byte %d: %d alone, may begin %d", c, kind, begun)
			}
		case kind != begun:
			t.Errorf("byte %d: %d alone, may begin %d", c, kind, begun)
		}
	}
}

func TestSkipped(t *testing.T) {
	for kind := api.TokOpen; kind <= api.TokBad; kind++ {
		want := kind == api.TokBlank || kind == api.TokRemark
		if got := token.Skipped(api.Token{Kind: kind, From: 1, To: 2}); got != want {
			t.Errorf("kind %d: %v", kind, got)
		}
	}
}

// What stands farther behind a token than its reading sees may be anything; and nearer it may not.
func TestSight(t *testing.T) {
	near := false
	for _, letters := range []string{"1e+.", "\"\\\na", "/*\na", "-0E-", "tru ", "{]: "} {
		for _, s := range texts(letters, 6) {
			kind, n := token.First(s)
			for cut := n; cut <= len(s); cut++ {
				for _, behind := range []string{"", "1", "e1", "\"", "*/", "\n", "x"} {
					other, m := token.First(s[:cut] + behind)
					same := other == kind && m == n
					if cut >= n+token.Sight && !same {
						t.Fatalf("%q, then %q: %d, %d, was %d, %d", s[:cut], behind, other, m, kind, n)
					}
					near = near || cut == n+token.Sight-1 && !same
				}
			}
		}
	}
	if !near {
		t.Error("no token sees as far")
	}
}
