// Package token reads one token of JSON with remarks, for what tells all of a text's and what tells them again, and says
// which of them say nothing, for what is made of the others.
package token

import (
	"strings"

	"minuet/api"
)

// Sight is how many bytes behind a token's end its reading looks at, at most: behind a 1 they are e, + and a digit.
const Sight = 3

// First tells the kind and the length of a text's first token; the text is not empty.
func First(s string) (int, int) {
	kind := Begun(s[0])
	switch kind {
	case api.TokText:
		return text(s)
	case api.TokNumber:
		return number(s)
	case api.TokWord:
		return word(s)
	case api.TokRemark:
		return remark(s)
	case api.TokBlank:
		return kind, run(s, kind)
	}
	return kind, 1
}

// Skipped: does a token say nothing, a blank or a remark? Neither trees nor the language are made of such.
func Skipped(t api.Token) bool {
	return t.Kind == api.TokBlank || t.Kind == api.TokRemark
}

// run counts how many bytes ahead may begin tokens of a kind.
func run(s string, kind int) int {
	n := 0
	for n < len(s) && Begun(s[n]) == kind {
		n++
	}
	return n
}

// text is told of what begins with a quote.
func text(s string) (int, int) {
	n := 1
	for n < len(s) && s[n] != '\n' {
		if s[n] == '"' {
			return api.TokText, n + 1
		}
		n += letter(s[n:])
	}
	return api.TokBad, n
}

// letter tells how many bytes stand together within a text: two, where a \ takes one along that does not end the line.
func letter(s string) int {
	if s[0] == '\\' && len(s) > 1 && s[1] != '\n' {
		return 2
	}
	return 1
}

// remark is told of what begins with a slash.
func remark(s string) (int, int) {
	if strings.HasPrefix(s, "//") {
		line, _, _ := strings.Cut(s, "\n")
		return api.TokRemark, len(line)
	}
	if !strings.HasPrefix(s, "/*") {
		return api.TokBad, 1
	}
	// The star that begins it does not end it too.
	_, behind, found := strings.Cut(s[2:], "*/")
	if !found {
		return api.TokBad, len(s)
	}
	return api.TokRemark, len(s) - len(behind)
}

// word is told of what begins with a letter.
func word(s string) (int, int) {
	n := run(s, api.TokWord)
	switch s[:n] {
	case "true", "false", "null":
		return api.TokWord, n
	}
	return api.TokBad, n
}

// Begun tells the kind of token that a byte may begin.
func Begun(c byte) int {
	switch c {
	case '{':
		return api.TokOpen
	case '}':
		return api.TokClose
	case '[':
		return api.TokBegin
	case ']':
		return api.TokEnd
	case ':':
		return api.TokColon
	case ',':
		return api.TokComma
	case '"':
		return api.TokText
	case '/':
		return api.TokRemark
	case ' ', '\t', '\n', '\r':
		return api.TokBlank
	}
	return ofMany(c)
}

// ofMany is Begun of a byte that shares its kind with many: digits, letters, and what begins nothing.
func ofMany(c byte) int {
	switch {
	case c == '-' || digit(c):
		return api.TokNumber
	case c == '_' || 'a' <= c && c <= 'z' || 'A' <= c && c <= 'Z':
		return api.TokWord
	}
	return api.TokBad
}
