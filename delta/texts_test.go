package delta_test

import (
	"math/rand"
	"slices"
	"strings"
	"testing"

	"minuet/api"
	"minuet/delta"
)

// P14.1 over trees of texts, and over trees by chance, held against the chapter's words.

// bothWays: are the steps right, there and back?
func bothWays(t *testing.T, a, b api.Tree) {
	t.Helper()
	right(t, a, b)
	right(t, b, a)
}

// pieces are what texts are made of here: one token each, that stays one beside any other.
func pieces() []string {
	return []string{"{", "}", "[", "]", ":", ",", `""`, "0", "#"}
}

// every calls a function with every row of at most n pieces.
func every(n int, f func(row []string)) {
	row := make([]string, 0, n)
	var more func()
	more = func() {
		f(row)
		if len(row) == n {
			return
		}
		for _, p := range pieces() {
			row = append(row, p)
			more()
			row = row[:len(row)-1]
		}
	}
	more()
}

// Every two short texts: with ids that stay, and with layer 11's, which may have two kinds.
func TestEveryTwoShortTexts(t *testing.T) {
	yes, no := 0, 0
	every(2, func(old []string) {
		s := strings.Join(old, "")
		x := must(s)
		every(2, func(row []string) {
			u := strings.Join(row, "")
			bothWays(t, x, renewed(x, s, u))
			right(t, x, must(u))
			if _, e := delta.Between(x, must(u)); e == api.OK {
				yes++
			} else {
				no++
			}
		})
	})
	if yes < 500 || no < 500 {
		t.Errorf("%d with steps, %d without any", yes, no)
	}
}

// Every short text, in others, with each piece put in anywhere, turned or cut out.
func TestEveryShortEdit(t *testing.T) {
	for _, around := range [][2]string{{"", ""}, {"[0,", ",0]"}, {`{"":[`, `],"":0}`}} {
		every(2, func(row []string) {
			s := around[0] + strings.Join(row, "") + around[1]
			x := must(s)
			become := func(row []string) {
				bothWays(t, x, renewed(x, s, around[0]+strings.Join(row, "")+around[1]))
			}
			for at := range len(row) + 1 {
				for _, p := range append(pieces(), " ", "[0,0]", `"":0`) {
					become(slices.Insert(slices.Clone(row), at, p))
					if at < len(row) {
						become(slices.Replace(slices.Clone(row), at, at+1, p))
					}
				}
				if at < len(row) {
					become(slices.Delete(slices.Clone(row), at, at+1))
				}
			}
		})
	}
}

// From each sample to each other one.
func TestSamples(t *testing.T) {
	for _, s := range samples() {
		x := must(s)
		for _, u := range samples() {
			bothWays(t, x, renewed(x, s, u))
			bothWays(t, x, must(u))
		}
	}
}

// chance makes a text by chance.
func chance(r *rand.Rand, most int) string {
	words := append(pieces(), " ", "\n", "/* x */", "// y\n", "\"", "/", "true", "null,", `"b":`, `"c":1,`, "-2.5", "],", "},", "[[", "[{", "\xff", "/*", "0,0,0,", "[0],[0],")
	s := ""
	for range r.Intn(most + 1) {
		if w := words[r.Intn(len(words))]; len(s)+len(w) <= api.MaxDoc {
			s += w
		}
	}
	return s
}

// edited is a text with some bytes of it cut and others put, by chance, not too long.
func edited(r *rand.Rand, s string) string {
	for {
		at := r.Intn(len(s) + 1)
		cut := r.Intn(min(len(s)-at, 6) + 1)
		if u := s[:at] + chance(r, 3) + s[at+cut:]; len(u) <= api.MaxDoc {
			return u
		}
	}
}

// Rows of texts, each tree renewed from the one ahead: steps from each to the next, back, and from the first to each.
func TestRowsOfTexts(t *testing.T) {
	r := rand.New(rand.NewSource(141))
	var count [4]int
	for range 60 {
		s := chance(r, 25)
		x := must(s)
		first := x
		for range 30 {
			u := edited(r, s)
			y := renewed(x, s, u)
			for _, step := range taken(t, "the next", x, y) {
				count[step.Kind]++
			}
			taken(t, "back", y, x)
			taken(t, "from the first", first, y)
			taken(t, "to the first", y, first)
			x, s = y, u
		}
	}
	if slices.Min(count[:]) < 1000 {
		t.Errorf("%v steps of each kind: the edits are too tame", count)
	}
}

// Texts of MaxDoc bytes, and the most nodes that such may have: with many that stay, and with none.
func TestUpToMaxDoc(t *testing.T) {
	const n = api.MaxDoc
	for _, c := range []string{"0", "0,", "[", "{", "[0]", "[0 ", `{"":`, "#", " ", "{}", "[[],", "\xff"} {
		for _, ahead := range []string{"", "[", "{", strings.Repeat("[", api.MaxDepth)} {
			s := (ahead + strings.Repeat(c, n))[:n]
			x := must(s)
			for _, u := range []string{s, s[1:], s[:n-1], s[:n/2] + "1" + s[n/2+1:], s[:n/2] + s[n/2+1:], s[n/2:] + s[:n/2], ""} {
				bothWays(t, x, renewed(x, s, u))
				bothWays(t, must(u), renewed(must(u), u, s))
			}
		}
	}
}

// wild is a tree by chance, with ids of a few, the root's the same for all; a node's kind hangs on its id, but that
// seldom one has another.
func wild(r *rand.Rand) api.Tree {
	const most, root = 14, 6
	ids := slices.DeleteFunc(r.Perm(most), func(id int) bool { return id == root })[:r.Intn(most-1)]
	size := r.Intn(6)
	all := []api.Node{nd(root, 'R', 0, size)}
	for _, id := range ids {
		kind := 1 + id%7
		if r.Intn(100) == 0 {
			kind = 1 + r.Intn(7)
		}
		over := &all[r.Intn(len(all))]
		if over.Kind >= api.NodeText && over.Kind <= api.NodeWord {
			over = &all[0]
		}
		from := over.From
		if len(over.Kids) > 0 {
			last := slices.IndexFunc(all, func(n api.Node) bool { return n.Id == over.Kids[len(over.Kids)-1] })
			from = all[last].To
		}
		from += r.Intn(over.To - from + 1)
		over.Kids = append(over.Kids, id)
		all = append(all, nd(id, letters[kind], from, from+r.Intn(over.To-from+1)))
	}
	slices.SortFunc(all, func(a, b api.Node) int { return a.Id - b.Id })
	x := tree(root, all...)
	x.Next += r.Intn(3)
	return x
}

func TestTreesByChance(t *testing.T) {
	r := rand.New(rand.NewSource(142))
	yes, no := 0, 0
	for range 8000 {
		a, b := wild(r), wild(r)
		if !mayBe(a) || !mayBe(b) {
			t.Fatalf("the test is wrong: %v, %v", a, b)
		}
		right(t, a, a)
		bothWays(t, a, b)
		if _, e := delta.Between(a, b); e == api.OK {
			yes++
		} else {
			no++
		}
	}
	if yes < 4000 || no < 200 {
		t.Errorf("%d with steps, %d without any: the trees are too wild or too tame", yes, no)
	}
}
