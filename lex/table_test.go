package lex

import (
	"slices"
	"strings"
	"sync"
	"testing"

	"minuet/api"
	"minuet/token"
)

// unmake takes back what was made once, so that the next call is a first one again.
func unmake() {
	once, table = sync.Once{}, [256]int{}
}

// The table is made when the first text is asked for, and not again.
func TestTableIsMadeOnce(t *testing.T) {
	unmake()
	defer unmake()
	if ts, e := Tokens("1"); len(ts) != 1 || e != api.OK {
		t.Fatalf("%v, %d", ts, e)
	}
	for c, kind := range table {
		if kind != token.Begun(byte(c)) {
			t.Errorf("byte %d: %d", c, kind)
		}
	}
	table['1'] = api.TokBad
	Tokens("1")
	if table['1'] != api.TokBad {
		t.Error("made again")
	}
}

// No answer hangs on what the table holds.
func TestAnswersDoNotHangOnTheTable(t *testing.T) {
	defer unmake()
	for _, s := range []string{"", "{", "[[1,-2.5e+7], true] // x", "\"a\\\"b\" /* * */ tru\n#\"", strings.Repeat("[1 ", api.MaxDoc/3), strings.Repeat("\xff", api.MaxDoc)} {
		unmake()
		want, e := Tokens(s)
		for _, kinds := range []func(c int) int{
			func(c int) int { return 0 },
			func(c int) int { return -1 },
			func(c int) int { return c },
			func(c int) int { return -c },
			func(c int) int { return 255 - c },
			func(c int) int { return c % 12 },
		} {
			for c := range table {
				table[c] = kinds(c)
			}
			if got, f := Tokens(s); !slices.Equal(got, want) || f != e {
				t.Errorf("%q: %v, %d, want %v, %d", s, got, f, want, e)
			}
		}
	}
}

// The room of a list follows the table, and is never more than a text has bytes.
func TestRoom(t *testing.T) {
	unmake()
	defer unmake()
	once.Do(fill)
	for s, want := range map[string]int{
		"":                0,
		"1":               1,
		"111":             1,
		"[1]":             3,
		"[[1,2],  null]]": 9,
		"a1a1":            4,
		"\x00\xff#":       1,
	} {
		if got := room(s, table); got != want {
			t.Errorf("%q: %d, want %d", s, got, want)
		}
	}
}
