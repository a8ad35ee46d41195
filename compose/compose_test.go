package compose_test

import (
	"math"
	"slices"
	"strings"
	"sync"
	"sync/atomic"
	"testing"
	"unsafe"

	"minuet/api"
	"minuet/apply"
	"minuet/comp"
	"minuet/compose"
)

func keep(n int) api.Comp { return api.Comp{Kind: api.CompKeep, N: n} }

func cut(n int) api.Comp { return api.Comp{Kind: api.CompCut, N: n} }

func put(s string) api.Comp { return api.Comp{Kind: api.CompPut, Text: s} }

// edit is a list of pieces.
func edit(cs ...api.Comp) []api.Comp { return cs }

// times is pieces, again and again, n pieces in all.
func times(n int, cs ...api.Comp) []api.Comp {
	all := make([]api.Comp, n)
	for i := range all {
		all[i] = cs[i%len(cs)]
	}
	return all
}

// full is a text of n bytes in which neighbors differ.
func full(n int) string {
	b := make([]byte, n)
	for i := range b {
		b[i] = 'a' + byte(i*7%26)
	}
	return string(b)
}

// sums are From and To by the document's words.
func sums(cs []api.Comp) (int, int) {
	from, to := 0, 0
	for _, c := range cs {
		if c.Kind != api.CompPut {
			from += c.N
		}
		if c.Kind == api.CompKeep {
			to += c.N
		}
		to += len(c.Text)
	}
	return from, to
}

// origin is where a byte of a text comes from: a place of the first text, or, if that is below 0, a put.
type origin struct {
	place int
	put   byte
}

// origins are those of a text of n bytes that nothing was done to.
func origins(n int) []origin {
	all := make([]origin, n)
	for i := range all {
		all[i].place = i
	}
	return all
}

// trace does an edit upon the origins of a text's bytes.
func trace(s []origin, cs []api.Comp) []origin {
	var made []origin
	for _, c := range cs {
		if c.Kind == api.CompKeep {
			made = append(made, s[:c.N]...)
		}
		for i := range len(c.Text) {
			made = append(made, origin{place: -1, put: c.Text[i]})
		}
		s = s[c.N:]
	}
	return made
}

// retold is the normal edit of a text of n bytes that leaves bytes of these origins.
func retold(n int, s []origin) []api.Comp {
	var all []api.Comp
	at, text := 0, ""
	close := func(place int) {
		if text != "" {
			all = append(all, put(text))
		}
		if place > at {
			all = append(all, cut(place-at))
		}
		at, text = place, ""
	}
	for _, o := range s {
		if o.place < 0 {
			text += string([]byte{o.put})
			continue
		}
		close(o.place)
		if last := len(all) - 1; last >= 0 && all[last].Kind == api.CompKeep {
			all[last].N++
		} else {
			all = append(all, keep(1))
		}
		at++
	}
	close(n)
	return all
}

// model is the composition of two edits, byte by byte.
func model(a, b []api.Comp) []api.Comp {
	from, _ := sums(a)
	return retold(from, trace(trace(origins(from), a), b))
}

// short is every edit of at most n short pieces that may be, with these texts to put.
func short(n int, texts ...string) [][]api.Comp {
	pieces := edit(keep(1), keep(2), cut(1), cut(2))
	for _, s := range texts {
		pieces = append(pieces, put(s))
	}
	var found [][]api.Comp
	var grow func(cs []api.Comp)
	grow = func(cs []api.Comp) {
		found = append(found, cs)
		if len(cs) == n {
			return
		}
		for _, c := range pieces {
			if more := append(slices.Clone(cs), c); comp.May(more) {
				grow(more)
			}
		}
	}
	grow(nil)
	return found
}

// row is two edits, and the one that does what both do.
type row struct {
	a, b, want []api.Comp
}

// ordinary are edits as they come.
func ordinary() map[string]row {
	return map[string]row{
		"keep, keep":                 {edit(keep(3)), edit(keep(3)), edit(keep(3))},
		"keep, cut":                  {edit(keep(3)), edit(cut(3)), edit(cut(3))},
		"put, keep":                  {edit(put("abc")), edit(keep(3)), edit(put("abc"))},
		"put, cut":                   {edit(put("abc")), edit(cut(3)), nil},
		"cut, put":                   {edit(cut(3)), edit(put("abc")), edit(put("abc"), cut(3))},
		"a keeps, b in parts":        {edit(keep(6)), edit(keep(1), cut(2), keep(3)), edit(keep(1), cut(2), keep(3))},
		"a keeps, b puts between":    {edit(keep(6)), edit(keep(1), put("X"), keep(5)), edit(keep(1), put("X"), keep(5))},
		"a in parts, b keeps":        {edit(keep(1), put("x"), cut(2), keep(3)), edit(keep(5)), edit(keep(1), put("x"), cut(2), keep(3))},
		"a in parts, b cuts":         {edit(keep(1), put("x"), cut(2), keep(3)), edit(cut(5)), edit(cut(6))},
		"b cuts a put's front":       {edit(put("abc")), edit(cut(1), keep(2)), edit(put("bc"))},
		"b cuts a put's rear":        {edit(put("abc")), edit(keep(2), cut(1)), edit(put("ab"))},
		"b cuts a put's middle":      {edit(put("abc")), edit(keep(1), cut(1), keep(1)), edit(put("ac"))},
		"b keeps a put's middle":     {edit(put("abc")), edit(cut(1), keep(1), cut(1)), edit(put("b"))},
		"b puts within a put":        {edit(put("abc")), edit(keep(1), put("X"), keep(2)), edit(put("aXbc"))},
		"b puts for a put's part":    {edit(put("abc")), edit(keep(1), put("XY"), cut(1), keep(1)), edit(put("aXYc"))},
		"b puts ahead of a put":      {edit(put("a"), keep(1)), edit(put("X"), keep(2)), edit(put("Xa"), keep(1))},
		"b puts behind a put":        {edit(put("a"), keep(1)), edit(keep(1), put("X"), keep(1)), edit(put("aX"), keep(1))},
		"b cuts across a put":        {edit(keep(2), put("xy"), keep(2)), edit(keep(1), cut(4), keep(1)), edit(keep(1), cut(2), keep(1))},
		"b keeps across a cut":       {edit(keep(1), cut(2), keep(1)), edit(keep(2)), edit(keep(1), cut(2), keep(1))},
		"b cuts across a cut":        {edit(keep(1), cut(2), keep(1)), edit(cut(2)), edit(cut(4))},
		"b cuts ahead of a cut":      {edit(keep(1), cut(2), keep(1)), edit(cut(1), keep(1)), edit(cut(3), keep(1))},
		"b cuts behind a cut":        {edit(keep(1), cut(2), keep(1)), edit(keep(1), cut(1)), edit(keep(1), cut(3))},
		"b puts at a cut":            {edit(keep(1), cut(2), keep(1)), edit(keep(1), put("X"), keep(1)), edit(keep(1), put("X"), cut(2), keep(1))},
		"b puts, cuts at a cut":      {edit(keep(1), cut(2), keep(2)), edit(keep(1), put("X"), cut(1), keep(1)), edit(keep(1), put("X"), cut(3), keep(1))},
		"b puts at the rear's cut":   {edit(keep(1), cut(2)), edit(keep(1), put("X")), edit(keep(1), put("X"), cut(2))},
		"b puts behind a put, a cut": {edit(put("a"), cut(2), keep(1)), edit(keep(1), put("X"), keep(1)), edit(put("aX"), cut(2), keep(1))},
		"b puts ahead of the same":   {edit(put("a"), cut(2), keep(1)), edit(put("X"), keep(2)), edit(put("Xa"), cut(2), keep(1))},
		"b puts for the same":        {edit(put("a"), cut(2), keep(1)), edit(put("X"), cut(1), keep(1)), edit(put("X"), cut(2), keep(1))},
		"gone, the keeps are one":    {edit(keep(1), put("abc"), keep(2)), edit(keep(1), cut(3), keep(2)), edit(keep(3))},
		"gone, the cuts are one":     {edit(cut(1), keep(1), put("a"), cut(1)), edit(cut(2)), edit(cut(3))},
		"gone, the puts are one":     {edit(put("ab"), keep(1)), edit(put("X"), cut(1), keep(1), put("Y"), keep(1)), edit(put("XbY"), keep(1))},
		"b puts back what a cut":     {edit(keep(1), cut(2), keep(1)), edit(keep(1), put("bc"), keep(1)), edit(keep(1), put("bc"), cut(2), keep(1))},
		"both put the same":          {edit(keep(1), put("a"), keep(1)), edit(keep(1), put("a"), keep(2)), edit(keep(1), put("aa"), keep(1))},
		"parts of parts": {
			edit(put("abcd"), cut(3), keep(4), put("efg"), keep(2)),
			edit(keep(2), cut(3), keep(1), put("XY"), cut(3), keep(1), cut(1), keep(2)),
			edit(put("ab"), cut(4), keep(1), put("XYf"), cut(2), keep(2)),
		},
	}
}

// edges are the ends of what may be.
func edges() map[string]row {
	most, other := full(api.MaxLen), strings.ToUpper(full(api.MaxLen))
	half, third := api.MaxLen/2, api.MaxLen/3
	return map[string]row{
		"no lists":                  {nil, nil, nil},
		"no pieces":                 {edit(), edit(), nil},
		"no list, no piece":         {nil, edit(), nil},
		"nothing, then a put":       {nil, edit(put("X")), edit(put("X"))},
		"a cut, then nothing":       {edit(cut(1)), nil, edit(cut(1))},
		"a put undone":              {edit(put("a")), edit(cut(1)), nil},
		"bytes of no rune":          {edit(put("\xff\x00\xc3\xa9")), edit(keep(3), cut(1)), edit(put("\xff\x00\xc3"))},
		"a letter of halves":        {edit(put("\xc3")), edit(keep(1), put("\xa9")), edit(put("é"))},
		"keep the most":             {edit(keep(api.MaxLen)), edit(keep(api.MaxLen)), edit(keep(api.MaxLen))},
		"cut the most":              {edit(keep(api.MaxLen)), edit(cut(api.MaxLen)), edit(cut(api.MaxLen))},
		"put the most, keep it":     {edit(put(most)), edit(keep(api.MaxLen)), edit(put(most))},
		"put the most, cut it":      {edit(put(most)), edit(cut(api.MaxLen)), nil},
		"put the most for the most": {edit(put(most)), edit(put(other), cut(api.MaxLen)), edit(put(other))},
		"cut the most, put it":      {edit(cut(api.MaxLen)), edit(put(most)), edit(put(most), cut(api.MaxLen))},
		"the most between":          {edit(put(most[1:]), keep(1)), edit(cut(api.MaxLen)), edit(cut(1))},
		"grow to the most":          {edit(put(most[:half])), edit(keep(half), put(most[half:])), edit(put(most))},
		"grow to the most, kept":    {edit(keep(1), put(most[2:])), edit(keep(api.MaxLen-1), put("X")), edit(keep(1), put(most[2:]+"X"))},
		"cut twice, the most":       {edit(cut(half), keep(half)), edit(cut(half)), edit(cut(api.MaxLen))},
		"puts one by one":           {edit(put(most[:half])), times(api.MaxLen, put("X"), keep(1)), edit(put(by(most[:half], "X")))},
		"puts cut one by one":       {times(api.MaxLen, put("a"), keep(1)), times(api.MaxLen, cut(1), keep(1)), edit(keep(half))},
		"keeps cut one by one":      {times(api.MaxLen, put("a"), keep(1)), times(api.MaxLen, keep(1), cut(1)), edit(put(strings.Repeat("a", half)), cut(half))},
		"more steps than pieces":    {times(api.MaxLen, cut(1), keep(1)), edit(put(most), cut(half)), edit(put(most), cut(api.MaxLen))},
		"the most pieces": {
			times(2*third, cut(1), keep(1)),
			append(times(2*third, put("X"), keep(1)), put("X")),
			append(times(3*third, put("X"), cut(1), keep(1)), put("X")),
		},
	}
}

// by is a text with another one ahead of each of its bytes.
func by(s string, ahead string) string {
	made := ""
	for i := range len(s) {
		made += ahead + s[i:i+1]
	}
	return made
}

// right are all rows that have an answer.
func right() map[string]row {
	all := edges()
	for name, r := range ordinary() {
		all["ordinary: "+name] = r
	}
	return all
}

// wrong are edits that may not be.
func wrong() map[string][]api.Comp {
	most := full(api.MaxLen)
	return map[string][]api.Comp{
		"keep nothing":         edit(keep(0)),
		"put nothing":          edit(put("")),
		"cut nothing":          edit(cut(0)),
		"nothing ahead":        edit(put(""), keep(3)),
		"nothing between":      edit(keep(1), put(""), cut(2)),
		"nothing behind":       edit(keep(3), cut(0)),
		"two keeps":            edit(keep(1), keep(2)),
		"two cuts":             edit(cut(1), cut(2)),
		"two puts":             edit(put("x"), put("y"), keep(3)),
		"cut, put":             edit(cut(3), put("x")),
		"keep, cut, put, keep": edit(keep(1), cut(1), put("x"), keep(1)),
		"a kind above all":     edit(api.Comp{Kind: 3, N: 3}),
		"a kind below all":     edit(api.Comp{Kind: -1, N: 3}),
		"the greatest kind":    edit(keep(3), api.Comp{Kind: math.MaxInt, Text: "x"}),
		"the least kind":       edit(api.Comp{Kind: math.MinInt}, keep(3)),
		"keep below 0":         edit(keep(-1)),
		"cut below 0":          edit(cut(-1)),
		"below 0 made good":    edit(keep(4), cut(-1)),
		"made good by one":     edit(cut(-1), keep(4)),
		"keep the least":       edit(keep(math.MinInt)),
		"cut the greatest":     edit(cut(math.MaxInt)),
		"keeps wrap round":     edit(keep(math.MaxInt), put("x"), keep(math.MaxInt), put("x"), keep(2)),
		"keep with a Text":     edit(api.Comp{Kind: api.CompKeep, N: 3, Text: "x"}),
		"cut with a Text":      edit(api.Comp{Kind: api.CompCut, N: 3, Text: "x"}),
		"put with an N":        edit(api.Comp{Kind: api.CompPut, N: 3, Text: "x"}),
		"put with N below 0":   edit(api.Comp{Kind: api.CompPut, N: -1, Text: "x"}, keep(4)),
		"put too much":         edit(put(most + "x")),
		"keep too much":        edit(keep(api.MaxLen + 1)),
		"cut too much":         edit(cut(api.MaxLen + 1)),
		"From above":           edit(keep(api.MaxLen), cut(1)),
		"To above":             edit(put(most), keep(1)),
		"To above beside cuts": edit(put(most), cut(2), keep(1)),
		"a piece too many":     times(api.MaxLen+1, put("A"), cut(1), keep(1)),
	}
}

// whole is the edit that keeps all of n bytes.
func whole(n int) []api.Comp {
	if n == 0 {
		return nil
	}
	return edit(keep(n))
}

// refused: does Compose refuse these two, with an empty list beside the error?
func refused(t *testing.T, name string, a, b []api.Comp) {
	t.Helper()
	if got, e := compose.Compose(a, b); len(got) != 0 || e != api.ErrComposeForm {
		t.Errorf("%s: %d pieces, %d", name, len(got), e)
	}
}

// P4.1

func TestCompose(t *testing.T) {
	for name, r := range ordinary() {
		if got, e := compose.Compose(r.a, r.b); !slices.Equal(got, r.want) || e != api.OK {
			t.Errorf("%s: %v, %d, want %v", name, got, e, r.want)
		}
	}
}

func TestComposeAtTheEdges(t *testing.T) {
	for name, r := range edges() {
		if got, e := compose.Compose(r.a, r.b); !slices.Equal(got, r.want) || e != api.OK {
			t.Errorf("%s: %d pieces, %d, want %d pieces", name, len(got), e, len(r.want))
		}
	}
}

// The composition makes of a text what a and then b makes of it.
func TestComposeDoesWhatBothDo(t *testing.T) {
	for name, r := range right() {
		from, _ := sums(r.a)
		s := full(from)
		between, _ := apply.Apply(s, r.a)
		want, e := apply.Apply(between, r.b)
		if e != api.OK {
			t.Fatalf("%s: %d", name, e)
		}
		both, _ := compose.Compose(r.a, r.b)
		if got, e := apply.Apply(s, both); got != want || e != api.OK {
			t.Errorf("%s: %q, %d, want %q", name, got, e, want)
		}
	}
}

// Every two short edits: those that fit have the model's answer, and the others none.
func TestComposeOfEveryTwoShortEdits(t *testing.T) {
	behind := short(4, "X", "YZ")
	for _, a := range short(4, "a", "bc") {
		_, to := sums(a)
		for _, b := range behind {
			from, _ := sums(b)
			var want []api.Comp
			wantE := api.ErrComposeForm
			if to == from {
				want, wantE = model(a, b), api.OK
			}
			got, e := compose.Compose(a, b)
			if !slices.Equal(got, want) || e != wantE || !comp.May(got) {
				t.Fatalf("%v, %v: %v, %d, want %v, %d", a, b, got, e, want, wantE)
			}
		}
	}
}

// An edit that keeps all changes nothing, ahead of another one or behind it.
func TestComposeWithAnEditThatKeepsAll(t *testing.T) {
	tried := short(5, "a", "bc")
	for _, r := range right() {
		tried = append(tried, r.a, r.b, r.want)
	}
	for _, cs := range tried {
		from, to := sums(cs)
		if got, e := compose.Compose(whole(from), cs); !slices.Equal(got, cs) || e != api.OK {
			t.Fatalf("ahead of %v: %v, %d", cs, got, e)
		}
		if got, e := compose.Compose(cs, whole(to)); !slices.Equal(got, cs) || e != api.OK {
			t.Fatalf("behind %v: %v, %d", cs, got, e)
		}
	}
}

// Of three edits it is one whichever two are composed first.
func TestComposeOfThree(t *testing.T) {
	byFrom := map[int][][]api.Comp{}
	for _, cs := range short(3, "XY") {
		from, _ := sums(cs)
		byFrom[from] = append(byFrom[from], cs)
	}
	for _, a := range short(3, "ab") {
		_, to := sums(a)
		for _, b := range byFrom[to] {
			ab, _ := compose.Compose(a, b)
			_, to := sums(b)
			for _, c := range byFrom[to] {
				bc, _ := compose.Compose(b, c)
				x, e := compose.Compose(ab, c)
				y, f := compose.Compose(a, bc)
				if !slices.Equal(x, y) || e != api.OK || f != api.OK {
					t.Fatalf("%v, %v, %v: %v, %v; %d, %d", a, b, c, x, y, e, f)
				}
			}
		}
	}
}

func TestComposeRefusesWhatMayNotBe(t *testing.T) {
	for name, cs := range wrong() {
		others := [][]api.Comp{nil, cs, edit(keep(1)), edit(keep(3)), edit(put("x")), edit(cut(1)), edit(keep(api.MaxLen))}
		from, to := sums(cs)
		for _, n := range []int{from, to} {
			if n > 0 && n <= api.MaxLen {
				others = append(others, edit(keep(n)), edit(cut(n)), edit(put(full(n))))
			}
		}
		for _, other := range others {
			refused(t, name+", as a", cs, other)
			refused(t, name+", as b", other, cs)
		}
	}
}

// What a leaves must be just as long as what b takes.
func TestComposeRefusesOtherLengths(t *testing.T) {
	for name, r := range right() {
		_, to := sums(r.a)
		from, _ := sums(r.b)
		refused(t, name+": b takes one more", r.a, whole(to+1))
		refused(t, name+": a leaves one more", whole(from+1), r.b)
		if to == 0 {
			continue
		}
		refused(t, name+": b takes one less", r.a, whole(to-1))
		refused(t, name+": a leaves one less", whole(from-1), r.b)
		refused(t, name+": b takes none", r.a, edit(put("x")))
		refused(t, name+": a leaves none", edit(cut(1)), r.b)
	}
}

// It is a's To that b's From is held against, no other two of the four.
func TestComposeAsksToAndFrom(t *testing.T) {
	longer, shorter := edit(keep(1), put("xyz")), edit(keep(1), cut(3))
	refused(t, "From, From", longer, edit(keep(1), put("a")))
	refused(t, "From, To", longer, longer)
	refused(t, "To, To", shorter, edit(put("a")))
	if got, e := compose.Compose(longer, shorter); !slices.Equal(got, edit(keep(1))) || e != api.OK {
		t.Errorf("%v, %d", got, e)
	}
}

// Two edits that may be can lead to one of more pieces than an edit may have.
func TestComposeRefusesALongResult(t *testing.T) {
	third := api.MaxLen / 3
	cuts, puts := times(2*third, cut(1), keep(1)), times(2*third, put("X"), keep(1))
	longer := slices.Clone(cuts)
	longer[len(longer)-1] = keep(2)
	for name, r := range map[string]struct {
		a, b   []api.Comp
		pieces int
	}{
		"one too many, by a's cut":  {append(slices.Clone(cuts), cut(1)), append(slices.Clone(puts), put("X")), api.MaxLen + 1},
		"one too many, by a's keep": {longer, append(slices.Clone(puts), put("X"), keep(1)), api.MaxLen + 1},
		"as many as there can be":   {times(api.MaxLen, cut(1), keep(1)), times(api.MaxLen, put("X"), keep(1)), api.MaxLen / 2 * 3},
	} {
		_, to := sums(r.a)
		from, _ := sums(r.b)
		if n := len(model(r.a, r.b)); !comp.May(r.a) || !comp.May(r.b) || to != from || n != r.pieces {
			t.Errorf("%s: %d to %d: %d pieces, want %d", name, to, from, n, r.pieces)
		}
		refused(t, name, r.a, r.b)
	}
}

// The rules of all calls.

// mark stands in the spare room behind an edit.
var mark = api.Comp{Kind: 77, N: 77, Text: "spare"}

func TestArgumentsStay(t *testing.T) {
	tried := right()
	for name, cs := range wrong() {
		tried["as a: "+name] = row{a: cs, b: edit(keep(3))}
		tried["as b: "+name] = row{a: edit(put("abc")), b: cs}
	}
	for name, r := range tried {
		a, b := append(slices.Clone(r.a), mark, mark), append(slices.Clone(r.b), mark, mark)
		oldA, oldB := slices.Clone(a), slices.Clone(b)
		compose.Compose(a[:len(r.a)], b[:len(r.b)])
		if !slices.Equal(a, oldA) || !slices.Equal(b, oldB) {
			t.Errorf("%s: changed", name)
		}
	}
}

// One list may be handed in as both edits.
func TestComposeOfAnEditAndItself(t *testing.T) {
	cs := edit(keep(1), put("ab"), cut(2), keep(1))
	got, e := compose.Compose(cs, cs)
	if want := edit(keep(1), put("ab"), cut(2), keep(1)); !slices.Equal(got, want) || !slices.Equal(cs, want) || e != api.OK {
		t.Errorf("%v, %v, %d, want %v", got, cs, e, want)
	}
}

// within: does a text lie, be it in part, in another one's memory?
func within(s, in string) bool {
	if s == "" || in == "" {
		return false
	}
	a, b := uintptr(unsafe.Pointer(unsafe.StringData(s))), uintptr(unsafe.Pointer(unsafe.StringData(in)))
	return a < b+uintptr(len(in)) && b < a+uintptr(len(s))
}

func TestAnswersAreNewMemory(t *testing.T) {
	for name, r := range right() {
		a, b := slices.Clone(r.a), slices.Clone(r.b)
		got, _ := compose.Compose(a, b)
		again, _ := compose.Compose(a, b)
		given := slices.Concat(a, b, again)
		for _, c := range got {
			for _, g := range given {
				if within(c.Text, g.Text) {
					t.Fatalf("%s: a text shares memory", name)
				}
			}
		}
		for i := range got {
			got[i] = mark
		}
		_ = append(got[:0], times(cap(got), mark)...)
		if !slices.Equal(a, r.a) || !slices.Equal(b, r.b) || !slices.Equal(again, r.want) {
			t.Errorf("%s: what was answered is not new", name)
		}
	}
}

func TestCallsAtOneTime(t *testing.T) {
	r := ordinary()["parts of parts"]
	var fit atomic.Int64
	var group sync.WaitGroup
	for range 8 {
		group.Add(1)
		go func() {
			defer group.Done()
			for range 100 {
				got, e := compose.Compose(r.a, r.b)
				none, f := compose.Compose(r.b, r.a)
				if slices.Equal(got, r.want) && e == api.OK && len(none) == 0 && f == api.ErrComposeForm {
					fit.Add(1)
				}
			}
		}()
	}
	group.Wait()
	if fit.Load() != 800 {
		t.Errorf("%d of 800 calls were right", fit.Load())
	}
}
