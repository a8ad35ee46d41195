package lex

import (
	"sync"

	"minuet/token"
)

// once makes the table when the first text comes, whoever asks, and several at one time.
var once sync.Once

// table holds for each byte the kind of token that it may begin. Only the room of a list hangs on it: no answer does.
var table [256]int

// fill makes the table.
func fill() {
	for c := range table {
		table[c] = token.Begun(byte(c))
	}
}

// room guesses how many tokens a text has, by its runs of bytes of one kind, so that a list seldom grows.
func room(s string, kinds [256]int) int {
	n := 0
	for i := range len(s) {
		if i == 0 || kinds[s[i]] != kinds[s[i-1]] {
			n++
		}
	}
	return n
}
