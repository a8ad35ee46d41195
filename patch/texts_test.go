package patch_test

import (
	"fmt"
	"math/rand"
	"slices"
	"strings"
	"testing"

	"minuet/api"
	"minuet/delta"
	"minuet/patch"
)

// P15.2 over trees of texts and trees by chance, and P15.1 over steps by chance, held against the chapter's words.

// leads: do layer 14's steps lead from a to b, but for Next?
func leads(t *testing.T, a, b api.Tree) api.Tree {
	t.Helper()
	ss, e := delta.Between(a, b)
	if e != api.OK {
		t.Fatalf("the test is wrong: %s, %s", brief(shown(a)), brief(shown(b)))
	}
	want := copyOf(b)
	want.Next = a.Next
	for _, s := range ss {
		if s.Kind == api.StepCreate {
			want.Next = max(want.Next, s.Id+1)
		}
	}
	got, e := patch.Apply(a, ss, size(b))
	if e != api.OK || !same(got, want) {
		t.Fatalf("P15.2: %s by %s: %s, %d, want %s", brief(shown(a)), brief(ss), brief(shown(got)), e, brief(shown(want)))
	}
	return got
}

// bothWays: do steps lead from a tree to one that was renewed from it, with its Next, and back?
func bothWays(t *testing.T, a, b api.Tree) {
	t.Helper()
	if got := leads(t, a, b); got.Next != b.Next {
		t.Fatalf("P15.2: Next is %d, want %d", got.Next, b.Next)
	}
	leads(t, b, a)
}

// pieces are what texts are made of here: one token each, that stays one beside any other.
func pieces() []string {
	return []string{"{", "}", "[", "]", ":", ",", `""`, "0", "#"}
}

// every calls a function with every row of at most n pieces.
func every(n int, f func(row []string)) {
	row := make([]string, 0, n)
	var more func()
	more = func() {
		f(row)
		if len(row) == n {
			return
		}
		for _, p := range pieces() {
			row = append(row, p)
			more()
			row = row[:len(row)-1]
		}
	}
	more()
}

func TestEveryTwoShortTexts(t *testing.T) {
	every(2, func(old []string) {
		s := strings.Join(old, "")
		x := must(s)
		every(2, func(row []string) {
			u := strings.Join(row, "")
			bothWays(t, x, renewed(x, s, u))
		})
	})
}

// Every short text, in others, with each piece put in anywhere, turned or cut out.
func TestEveryShortEdit(t *testing.T) {
	for _, around := range [][2]string{{"", ""}, {"[0,", ",0]"}, {`{"":[`, `],"":0}`}} {
		every(2, func(row []string) {
			s := around[0] + strings.Join(row, "") + around[1]
			x := must(s)
			to := func(row []string) {
				bothWays(t, x, renewed(x, s, around[0]+strings.Join(row, "")+around[1]))
			}
			for at := range len(row) + 1 {
				for _, p := range append(pieces(), " ", "[0,0]", `"":0`) {
					to(slices.Insert(slices.Clone(row), at, p))
					if at < len(row) {
						to(slices.Replace(slices.Clone(row), at, at+1, p))
					}
				}
				if at < len(row) {
					to(slices.Delete(slices.Clone(row), at, at+1))
				}
			}
		})
	}
}

// From each sample to each other one.
func TestSamples(t *testing.T) {
	for _, s := range samples() {
		for _, u := range samples() {
			bothWays(t, must(s), renewed(must(s), s, u))
		}
	}
}

// chance makes a text by chance.
func chance(r *rand.Rand, most int) string {
	words := append(pieces(), " ", "\n", "/* x */", "// y\n", "\"", "/", "true", "null,", `"b":`, `"c":1,`, "-2.5", "],", "},", "[[", "[{", "\xff", "/*", "0,0,0,", "[0],[0],")
	s := ""
	for range r.Intn(most + 1) {
		if w := words[r.Intn(len(words))]; len(s)+len(w) <= api.MaxDoc {
			s += w
		}
	}
	return s
}

// edited is a text with some bytes of it cut and others put, by chance, not too long.
func edited(r *rand.Rand, s string) string {
	for {
		at := r.Intn(len(s) + 1)
		cut := r.Intn(min(len(s)-at, 6) + 1)
		if u := s[:at] + chance(r, 3) + s[at+cut:]; len(u) <= api.MaxDoc {
			return u
		}
	}
}

// Rows of texts, each tree renewed from the one ahead. One that only takes the steps goes with it all the way, and all the
// way back.
func TestRowsOfTexts(t *testing.T) {
	r := rand.New(rand.NewSource(151))
	var count [4]int
	for range 60 {
		s := chance(r, 25)
		x := must(s)
		mirror := must(s)
		row := []api.Tree{x}
		for range 30 {
			u := edited(r, s)
			y := renewed(x, s, u)
			bothWays(t, x, y)
			leads(t, row[0], y)
			leads(t, y, row[0])
			ss, _ := delta.Between(x, y)
			for _, s := range ss {
				count[s.Kind]++
			}
			if mirror = taken(t, "the mirror", mirror, ss, len(u)); !same(mirror, y) {
				t.Fatalf("T2: %q: %s, want %s", u, shown(mirror), shown(y))
			}
			if len(u) < len(s) {
				refused(t, "the size ahead", x, ss, len(s))
			}
			x, s = y, u
			row = append(row, y)
		}
		for i := len(row) - 1; i > 0; i-- {
			mirror = leads(t, mirror, row[i-1])
		}
		if mirror.Next != x.Next {
			t.Fatalf("P15.1: Next fell from %d to %d", x.Next, mirror.Next)
		}
	}
	if slices.Min(count[:]) < 1000 {
		t.Errorf("%v steps of each kind: the edits are too tame", count)
	}
}

// Texts of MaxDoc bytes, and the most nodes that such may have: with many that stay, and with none.
func TestUpToMaxDoc(t *testing.T) {
	const n = api.MaxDoc
	for _, c := range []string{"0", "0,", "[", "{", "[0]", "[0 ", `{"":`, "#", " ", "{}", "[[],", "\xff"} {
		for _, ahead := range []string{"", "[", "{", strings.Repeat("[", api.MaxDepth)} {
			s := (ahead + strings.Repeat(c, n))[:n]
			x := must(s)
			for _, u := range []string{s, s[1:], s[:n-1], s[:n/2] + "1" + s[n/2+1:], s[:n/2] + s[n/2+1:], s[n/2:] + s[:n/2], ""} {
				bothWays(t, x, renewed(x, s, u))
				bothWays(t, must(u), renewed(must(u), u, s))
			}
		}
	}
}

// wild is a tree by chance, with ids of a few, the root's the same for all; a node's kind hangs on its id.
func wild(r *rand.Rand) api.Tree {
	const most, root = 14, 6
	ids := slices.DeleteFunc(r.Perm(most), func(id int) bool { return id == root })[:r.Intn(most-1)]
	to := r.Intn(6)
	all := []api.Node{nd(root, 'R', 0, to)}
	for _, id := range ids {
		over := &all[r.Intn(len(all))]
		if over.Kind >= api.NodeText && over.Kind <= api.NodeWord {
			over = &all[0]
		}
		from := over.From
		if len(over.Kids) > 0 {
			last := slices.IndexFunc(all, func(n api.Node) bool { return n.Id == over.Kids[len(over.Kids)-1] })
			from = all[last].To
		}
		from += r.Intn(over.To - from + 1)
		over.Kids = append(over.Kids, id)
		all = append(all, nd(id, letters[1+id%7], from, from+r.Intn(over.To-from+1)))
	}
	slices.SortFunc(all, func(a, b api.Node) int { return a.Id - b.Id })
	x := tree(root, all...)
	x.Next += r.Intn(3)
	return x
}

func TestTreesByChance(t *testing.T) {
	r := rand.New(rand.NewSource(152))
	for range 8000 {
		a, b := wild(r), wild(r)
		leads(t, a, a)
		leads(t, a, b)
		leads(t, b, a)
		leads(t, leads(t, a, b), a)
	}
}

// turned is steps with something turned, by chance: two of them, one less, one twice, or one number.
func turned(r *rand.Rand, ss []api.Step) []api.Step {
	ss = slices.Clone(ss)
	at, other := r.Intn(len(ss)), r.Intn(len(ss))
	by := r.Intn(5) - 2
	switch s := &ss[at]; r.Intn(10) {
	case 0:
		ss[at], ss[other] = ss[other], ss[at]
	case 1:
		ss = slices.Delete(ss, at, at+1)
	case 2:
		ss = slices.Insert(ss, other, ss[at])
	case 3:
		s.Kind += by
	case 4:
		s.Id += by
	case 5:
		s.Node += by
	case 6:
		s.From += by
	case 7:
		s.To += by
	case 8:
		s.Kids = append(slices.Clone(s.Kids), r.Intn(14))
	case 9:
		s.Kids = slices.Clone(s.Kids)
		r.Shuffle(len(s.Kids), func(i, j int) { s.Kids[i], s.Kids[j] = s.Kids[j], s.Kids[i] })
	}
	return ss
}

// random is a step by chance, of a few ids.
func random(r *rand.Rand) api.Step {
	id := r.Intn(14)
	switch r.Intn(4) {
	case 0:
		return api.Step{Kind: api.StepDrop, Id: id}
	case 1:
		return api.Step{Kind: api.StepCreate, Id: id, Node: r.Intn(8)}
	case 2:
		return api.Step{Kind: api.StepKids, Id: id, Kids: r.Perm(14)[:r.Intn(4)]}
	}
	from := r.Intn(6)
	return api.Step{Kind: api.StepSpan, Id: id, From: from, To: from + r.Intn(3)}
}

// Steps that lead somewhere, with some turned; and any steps, with those behind that lead from there to a tree.
func TestStepsByChance(t *testing.T) {
	r := rand.New(rand.NewSource(153))
	yes, no := 0, 0
	ask := func(name string, x api.Tree, ss []api.Step, size int) {
		if _, e := right(t, name, x, ss, size); e == api.OK {
			yes++
		} else {
			no++
		}
	}
	for range 15000 {
		a, b := wild(r), wild(r)
		ss, _ := delta.Between(a, b)
		for range min(len(ss), 1+r.Intn(3)) {
			if len(ss) > 0 {
				ss = turned(r, ss)
			}
		}
		ask("turned", a, ss, size(b))
		// Each of them by itself may be far from any tree that may be, until all is told anew.
		var wilder []api.Step
		there := map[int]bool{}
		for _, n := range a.Nodes {
			there[n.Id] = true
		}
		for range r.Intn(12) {
			if s := random(r); there[s.Id] != (s.Kind == api.StepCreate) {
				wilder = append(wilder, s)
				there[s.Id] = s.Kind != api.StepDrop
			}
		}
		var left api.Tree
		for id := range 14 {
			if there[id] {
				left.Nodes = append(left.Nodes, api.Node{Id: id})
			}
		}
		ask("wilder", a, wilder, size(a))
		ask("wilder, and anew", a, slices.Concat(wilder, anew(left, b)), size(b))
	}
	if yes < 15000 || no < 10000 {
		t.Errorf("%d were taken, %d refused: the steps are too wild or too tame", yes, no)
	}
}

// In which row steps of several nodes stand turns nothing, where each is of its own.
func TestAnyRowOfSteps(t *testing.T) {
	r := rand.New(rand.NewSource(154))
	for range 3000 {
		a, b := wild(r), wild(r)
		ss, _ := delta.Between(a, b)
		want := leads(t, a, b)
		r.Shuffle(len(ss), func(i, j int) { ss[i], ss[j] = ss[j], ss[i] })
		// But a node is there ahead of what is set of it.
		slices.SortStableFunc(ss, func(x, y api.Step) int {
			return min(x.Kind, api.StepKids) - min(y.Kind, api.StepKids)
		})
		if r.Intn(2) > 0 {
			slices.SortStableFunc(ss, func(x, y api.Step) int { return x.Id - y.Id })
		}
		if got := taken(t, fmt.Sprint("row of ", len(ss)), a, ss, size(b)); !same(got, want) {
			t.Fatalf("P15.1: %s by %s: %s, want %s", shown(a), brief(ss), shown(got), shown(want))
		}
	}
}
