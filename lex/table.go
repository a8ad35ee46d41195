package lex

import (
	"sync"

	"minuet/api"
)

// once makes the table when the first byte is asked for, whoever asks, and several at one time.
var once sync.Once

// table holds for each byte the kind of token that it may begin; once made, it is only read.
var table [256]int

// begun tells the kind of token that a byte may begin.
func begun(c byte) int {
	once.Do(fill)
	return table[c]
}

// fill makes the table.
func fill() {
	// No entry stays at 0, as that is a kind too.
	for c := range table {
		table[c] = api.TokBad
	}
	mark("{", api.TokOpen)
	mark("}", api.TokClose)
	mark("[", api.TokBegin)
	mark("]", api.TokEnd)
	mark(":", api.TokColon)
	mark(",", api.TokComma)
	mark("\"", api.TokText)
	mark("-0123456789", api.TokNumber)
	mark("abcdefghijklmnopqrstuvwxyzABCDEFGHIJKLMNOPQRSTUVWXYZ_", api.TokWord)
	mark("/", api.TokRemark)
	mark(" \t\n\r", api.TokBlank)
}

// mark sets the kind that some bytes begin.
func mark(bytes string, kind int) {
	for i := range len(bytes) {
		table[bytes[i]] = kind
	}
}
