package ends_test

import (
	"testing"

	"minuet/ends"
)

// alike is Alike of two texts' bytes; it fails where a byte is asked for that is not there.
func alike(t *testing.T, s, u string) (int, int) {
	return ends.Alike(len(s), len(u), func(i, j int) bool {
		if i < 0 || i >= len(s) || j < 0 || j >= len(u) {
			t.Fatalf("%q, %q: %d, %d asked for", s, u, i, j)
		}
		return s[i] == u[j]
	})
}

func TestAlike(t *testing.T) {
	for _, row := range []struct {
		s, u          string
		ahead, behind int
	}{
		{"", "", 0, 0},
		{"", "abc", 0, 0},
		{"abc", "", 0, 0},
		{"abc", "abc", 3, 0},
		{"abc", "xyz", 0, 0},
		{"abc", "axc", 1, 1},
		{"abc", "ac", 1, 1},
		{"ac", "abc", 1, 1},
		{"abc", "bc", 0, 2},
		{"abc", "ab", 2, 0},
		// What counts ahead does not count behind too.
		{"aaa", "aaaa", 3, 0},
		{"aaaa", "aaa", 3, 0},
		{"aba", "aa", 1, 1},
		{"aba", "ababa", 3, 0},
		{"xaba", "ababa", 0, 3},
	} {
		if ahead, behind := alike(t, row.s, row.u); ahead != row.ahead || behind != row.behind {
			t.Errorf("%q, %q: %d, %d, want %d, %d", row.s, row.u, ahead, behind, row.ahead, row.behind)
		}
	}
}
