package edit_test

import (
	"fmt"
	"math"
	"slices"
	"strings"
	"sync"
	"sync/atomic"
	"testing"
	"unsafe"

	"minuet/api"
	"minuet/apply"
	"minuet/comp"
	"minuet/edit"
)

func keep(n int) api.Comp { return api.Comp{Kind: api.CompKeep, N: n} }

func cut(n int) api.Comp { return api.Comp{Kind: api.CompCut, N: n} }

func put(s string) api.Comp { return api.Comp{Kind: api.CompPut, Text: s} }

// list is a list of pieces.
func list(cs ...api.Comp) []api.Comp { return cs }

// full is a text of n bytes in which neighbors differ.
func full(n int) string {
	b := make([]byte, n)
	for i := range b {
		b[i] = 'a' + byte(i*7%26)
	}
	return string(b)
}

// every is a text of all bytes, those that are no letters too.
func every() string {
	b := make([]byte, 256)
	for i := range b {
		b[i] = byte(i)
	}
	return string(b)
}

// texts is every text of at most n bytes made of these letters.
func texts(letters string, n int) []string {
	found := []string{""}
	for at := 0; at < len(found); at++ {
		if len(found[at]) == n {
			break
		}
		for _, c := range letters {
			found = append(found, found[at]+string(c))
		}
	}
	return found
}

// brief is what a message shows of a text or an edit, which may be a long one.
func brief(x any) string {
	s := fmt.Sprintf("%+q", fmt.Sprint(x))
	if len(s) > 200 {
		s = s[:200] + " .."
	}
	return s
}

// made is what Make is asked, and what it answers.
type made struct {
	s    string
	at   int
	cut  int
	put  string
	want []api.Comp
}

// ordinary are changes as they come.
func ordinary() map[string]made {
	return map[string]made{
		"put at the start":          {"abc", 0, 0, "xy", list(put("xy"), keep(3))},
		"put within":                {"abc", 1, 0, "xy", list(keep(1), put("xy"), keep(2))},
		"put at the end":            {"abc", 3, 0, "xy", list(keep(3), put("xy"))},
		"cut at the start":          {"abc", 0, 2, "", list(cut(2), keep(1))},
		"cut within":                {"abcd", 1, 2, "", list(keep(1), cut(2), keep(1))},
		"cut at the end":            {"abc", 1, 2, "", list(keep(1), cut(2))},
		"put and cut at the start":  {"abc", 0, 1, "xy", list(put("xy"), cut(1), keep(2))},
		"put and cut within":        {"abcd", 1, 2, "x", list(keep(1), put("x"), cut(2), keep(1))},
		"put and cut at the end":    {"abc", 2, 1, "xy", list(keep(2), put("xy"), cut(1))},
		"put what is cut":           {"abc", 1, 1, "b", list(keep(1), put("b"), cut(1), keep(1))},
		"put what stands ahead":     {"aaa", 2, 0, "aa", list(keep(2), put("aa"), keep(1))},
		"cut one of many like ones": {"aaaa", 3, 1, "", list(keep(3), cut(1))},
		"lines":                     {"one\ntwo\n", 4, 3, "2\n3", list(keep(4), put("2\n3"), cut(3), keep(1))},
	}
}

// edges are the ends of what may be asked.
func edges() map[string]made {
	doc, most, bytes := full(api.MaxDoc), full(api.MaxLen), every()
	const n, far = api.MaxDoc, api.MaxLen
	return map[string]made{
		"nothing upon nothing":          {"", 0, 0, "", nil},
		"put upon nothing":              {"", 0, 0, "a", list(put("a"))},
		"nothing, at the start":         {"abc", 0, 0, "", list(keep(3))},
		"nothing, within":               {"abc", 1, 0, "", list(keep(3))},
		"nothing, at the end":           {"abc", 3, 0, "", list(keep(3))},
		"cut all":                       {"abc", 0, 3, "", list(cut(3))},
		"cut all of one":                {"a", 0, 1, "", list(cut(1))},
		"one for another":               {"abc", 0, 3, "xy", list(put("xy"), cut(3))},
		"the most put upon nothing":     {"", 0, 0, doc, list(put(doc))},
		"the most for one":              {"x", 0, 1, doc, list(put(doc), cut(1))},
		"the most for the most":         {doc, 0, n, doc, list(put(doc), cut(n))},
		"one to the most, ahead":        {doc[1:], 0, 0, "A", list(put("A"), keep(n-1))},
		"one to the most, within":       {doc[1:], 9, 0, "A", list(keep(9), put("A"), keep(n-10))},
		"one to the most, behind":       {doc[1:], n - 1, 0, "A", list(keep(n-1), put("A"))},
		"all but one put":               {"x", 1, 0, doc[1:], list(keep(1), put(doc[1:]))},
		"nothing upon the most":         {doc, 0, 0, "", list(keep(n))},
		"nothing behind the most":       {doc, n, 0, "", list(keep(n))},
		"one for one of the most":       {doc, n - 1, 1, "A", list(keep(n-1), put("A"), cut(1))},
		"one above the most, cut":       {doc + "A", n, 1, "", list(keep(n), cut(1))},
		"one above the most, changed":   {doc + "A", 0, 2, "B", list(put("B"), cut(2), keep(n-1))},
		"the longest, cut":              {most, 0, far, "", list(cut(far))},
		"the longest, cut to one ahead": {most, 1, far - 1, "", list(keep(1), cut(far-1))},
		"the longest, cut to one":       {most, 0, far - 1, "", list(cut(far-1), keep(1))},
		"the longest, cut to the most":  {most, n, far - n, "", list(keep(n), cut(far-n))},
		"the longest, cut within":       {most, 100, far - n, "", list(keep(100), cut(far-n), keep(n-100))},
		"the longest, for the most":     {most, 0, far, doc, list(put(doc), cut(far))},
		"the longest, put within":       {most, 100, far - n + 9, doc[:9], list(keep(100), put(doc[:9]), cut(far-n+9), keep(n-109))},
		"put any bytes":                 {"é", 1, 0, bytes, list(keep(1), put(bytes), keep(1))},
		"cut any bytes":                 {bytes, 10, 240, "", list(keep(10), cut(240), keep(6))},
		"bytes of 0":                    {"\x00\x00", 1, 1, "\x00", list(keep(1), put("\x00"), cut(1))},
		"half of a letter":              {"é", 0, 1, "\xff", list(put("\xff"), cut(1), keep(1))},
	}
}

// right is all that Make answers with an edit, but for the short texts.
func right() map[string]made {
	all := edges()
	for name, m := range ordinary() {
		all["ordinary: "+name] = m
	}
	return all
}

// formless are texts above MaxLen, and places and cuts that are none.
func formless() map[string]made {
	most := full(api.MaxLen)
	all := map[string]made{
		"too long":                 {most + "x", 0, 0, "", nil},
		"too long, cut":            {most + "x", 0, api.MaxLen, "", nil},
		"too long, cut whole":      {most + "x", 0, api.MaxLen + 1, "", nil},
		"far too long":             {full(1 << 20), 0, 1 << 20, "", nil},
		"at wraps round":           {"abc", math.MaxInt, math.MinInt, "", nil},
		"at and cut wrap to 0":     {"abc", math.MinInt, math.MinInt, "", nil},
		"cut below 0 made good":    {"abc", 3, -1, "", nil},
		"at below 0 made good":     {"abc", -1, 1, "", nil},
		"at beyond, cut below":     {"abc", 4, -1, "", nil},
		"cut to the end and more":  {"abc", 2, 2, "", nil},
		"cut more than all":        {"abc", 0, 4, "", nil},
		"cut at the end":           {"abc", 3, 1, "", nil},
		"cut of nothing":           {"", 0, 1, "", nil},
		"at beyond nothing":        {"", 1, 0, "", nil},
		"at below nothing":         {"", -1, 0, "", nil},
		"cut below nothing":        {"", 0, -1, "", nil},
		"beyond the longest":       {most, api.MaxLen + 1, 0, "", nil},
		"cut beyond the longest":   {most, 1, api.MaxLen, "", nil},
		"at the end, cut the most": {most, api.MaxLen, math.MaxInt, "", nil},
	}
	for _, n := range []int{-1, -2, -1000, math.MinInt32, math.MinInt + 1, math.MinInt, 4, 5, 1000, math.MaxInt32, math.MaxInt - 1, math.MaxInt} {
		all[fmt.Sprint("at ", n)] = made{"abc", n, 0, "", nil}
		all[fmt.Sprint("cut ", n)] = made{"abc", 0, n, "", nil}
		all[fmt.Sprint("cut within ", n)] = made{"abc", 1, n, "", nil}
		all[fmt.Sprint("at and cut ", n)] = made{"abc", n, n, "", nil}
	}
	return all
}

// overlong are changes that put too much, or leave too much.
func overlong() map[string]made {
	doc, most := full(api.MaxDoc), full(api.MaxLen)
	const n, far = api.MaxDoc, api.MaxLen
	return map[string]made{
		"put too much upon nothing":    {"", 0, 0, doc + "A", nil},
		"put too much for one":         {"x", 0, 1, doc + "A", nil},
		"put too much for the most":    {doc, 0, n, doc + "A", nil},
		"put too much for the longest": {most, 0, far, doc + "A", nil},
		"put far too much":             {"", 0, 0, full(1 << 20), nil},
		"one more ahead":               {doc, 0, 0, "A", nil},
		"one more within":              {doc, 9, 0, "A", nil},
		"one more behind":              {doc, n, 0, "A", nil},
		"two for one":                  {doc, n - 1, 1, "AB", nil},
		"the most and one":             {"x", 0, 0, doc, nil},
		"the most behind one":          {"x", 1, 0, doc, nil},
		"long already":                 {doc + "A", 0, 0, "", nil},
		"long already, at the end":     {doc + "A", n + 1, 0, "", nil},
		"long already, one for one":    {doc + "A", 0, 1, "B", nil},
		"long already, too little cut": {doc + "AB", 0, 1, "", nil},
		"the longest, nothing":         {most, 0, 0, "", nil},
		"the longest, too little cut":  {most, 0, far - n - 1, "", nil},
		"the longest, one too many":    {most, 0, far - n, "A", nil},
		"the longest, put at the end":  {most, far, 0, "A", nil},
	}
}

// makes: does Make answer just this edit, may it be, and does it do what was asked?
func makes(t *testing.T, m made) {
	t.Helper()
	got, e := edit.Make(m.s, m.at, m.cut, m.put)
	if !slices.Equal(got, m.want) || e != api.OK {
		t.Errorf("%s, %d, %d, %s: %s, %d, want %s", brief(m.s), m.at, m.cut, brief(m.put), brief(got), e, brief(m.want))
	}
	if !comp.May(got) {
		t.Errorf("%s, %d, %d, %s: %s may not be", brief(m.s), m.at, m.cut, brief(m.put), brief(got))
	}
	want := m.s[:m.at] + m.put + m.s[m.at+m.cut:]
	if text, f := apply.Apply(m.s, got); text != want || f != api.OK {
		t.Errorf("%s, %d, %d, %s: to %s, %d", brief(m.s), m.at, m.cut, brief(m.put), brief(text), f)
	}
}

// refuses: does Make answer this error, and no list beside it?
func refuses(t *testing.T, m made, want api.Errno) {
	t.Helper()
	if got, e := edit.Make(m.s, m.at, m.cut, m.put); got != nil || e != want {
		t.Errorf("%d bytes, %d, %d, %d bytes: %s, %d, want %d", len(m.s), m.at, m.cut, len(m.put), brief(got), e, want)
	}
}

// P8.1

func TestMake(t *testing.T) {
	for name, m := range ordinary() {
		t.Run(name, func(t *testing.T) { makes(t, m) })
	}
}

func TestMakeAtTheEdges(t *testing.T) {
	for name, m := range edges() {
		t.Run(name, func(t *testing.T) { makes(t, m) })
	}
}

// model is the edit by the document's words: keep, put, cut, keep, and no piece of nothing.
func model(m made) []api.Comp {
	var cs []api.Comp
	behind := len(m.s) - m.at - m.cut
	if m.put == "" && m.cut == 0 {
		if m.s != "" {
			cs = list(keep(len(m.s)))
		}
		return cs
	}
	if m.at > 0 {
		cs = append(cs, keep(m.at))
	}
	if m.put != "" {
		cs = append(cs, put(m.put))
	}
	if m.cut > 0 {
		cs = append(cs, cut(m.cut))
	}
	if behind > 0 {
		cs = append(cs, keep(behind))
	}
	return cs
}

// Every place and every cut of a short text, those outside it too.
func TestMakeEverywhere(t *testing.T) {
	for n := range 6 {
		s := full(n)
		for at := -3; at < 9; at++ {
			for cut := -3; cut < 9; cut++ {
				for _, put := range texts("xy", 2) {
					m := made{s, at, cut, put, nil}
					if at < 0 || cut < 0 || at > n || at+cut > n {
						refuses(t, m, api.ErrEditForm)
						continue
					}
					m.want = model(m)
					makes(t, m)
				}
			}
		}
	}
}

// The limit stands at MaxDoc bytes then, however long the text was, how much is cut, and how much is put.
func TestMakeUpToMaxDoc(t *testing.T) {
	for _, long := range []int{0, 1, 2, 150, 299, 300, 301, 302, 600, 4095, 4096} {
		for _, cut := range []int{0, 1, 2, 149, 150, 151, 299, 300, 301, 3795, 3796, 3797, 4095, 4096} {
			for _, more := range []int{0, 1, 2, 149, 150, 151, 298, 299, 300, 301, 302} {
				if cut > long {
					continue
				}
				for _, at := range []int{0, (long - cut) / 2, long - cut} {
					m := made{full(long), at, cut, full(more), nil}
					if long-cut+more > 300 {
						refuses(t, m, api.ErrEditLong)
						continue
					}
					m.want = model(m)
					makes(t, m)
				}
			}
		}
	}
}

// What is put is put, though it is what was cut: only what was not named is kept.
func TestMakeKeepsWhatWasNotNamed(t *testing.T) {
	makes(t, made{"abab", 0, 4, "abab", list(put("abab"), cut(4))})
	makes(t, made{"aaaa", 1, 2, "aa", list(keep(1), put("aa"), cut(2), keep(1))})
	makes(t, made{"aaaa", 1, 0, "aa", list(keep(1), put("aa"), keep(3))})
}

func TestMakeRefusesOtherPlaces(t *testing.T) {
	for name, m := range formless() {
		t.Run(name, func(t *testing.T) { refuses(t, m, api.ErrEditForm) })
	}
}

func TestMakeRefusesTooMuch(t *testing.T) {
	for name, m := range overlong() {
		t.Run(name, func(t *testing.T) { refuses(t, m, api.ErrEditLong) })
	}
}

// Where both errors would be, the form is named.
func TestMakeTellsTheFormFirst(t *testing.T) {
	for name, m := range formless() {
		for _, put := range []string{full(api.MaxDoc), full(api.MaxDoc + 1), full(api.MaxLen), full(api.MaxLen + 1)} {
			t.Run(name, func(t *testing.T) { refuses(t, made{m.s, m.at, m.cut, put, nil}, api.ErrEditForm) })
		}
	}
	for name, m := range overlong() {
		t.Run(name, func(t *testing.T) {
			refuses(t, made{m.s, -1, m.cut, m.put, nil}, api.ErrEditForm)
			refuses(t, made{m.s, m.at, -1, m.put, nil}, api.ErrEditForm)
			refuses(t, made{m.s, m.at, len(m.s) - m.at + 1, m.put, nil}, api.ErrEditForm)
			refuses(t, made{m.s, len(m.s) + 1, 0, m.put, nil}, api.ErrEditForm)
			refuses(t, made{m.s + full(api.MaxLen+1), m.at, m.cut, m.put, nil}, api.ErrEditForm)
		})
	}
}

// pair is two texts, and the edit that leads from the one to the other.
type pair struct {
	s    string
	t    string
	want []api.Comp
}

// pairs are texts as they come.
func pairs() map[string]pair {
	return map[string]pair{
		"put, alike ahead":      {"abc", "abcxy", list(keep(3), put("xy"))},
		"put, alike behind":     {"abc", "xyabc", list(put("xy"), keep(3))},
		"put, alike at both":    {"abc", "axybc", list(keep(1), put("xy"), keep(2))},
		"cut, alike ahead":      {"abcxy", "abc", list(keep(3), cut(2))},
		"cut, alike behind":     {"xyabc", "abc", list(cut(2), keep(3))},
		"cut, alike at both":    {"axybc", "abc", list(keep(1), cut(2), keep(2))},
		"change, alike ahead":   {"abcd", "abxyz", list(keep(2), put("xyz"), cut(2))},
		"change, alike behind":  {"abcd", "xyzcd", list(put("xyz"), cut(2), keep(2))},
		"change, alike at both": {"abcd", "axyd", list(keep(1), put("xy"), cut(2), keep(1))},
		"alike nowhere":         {"abc", "xy", list(put("xy"), cut(3))},
		"alike between alone":   {"abcd", "xbcy", list(put("xbcy"), cut(4))},
		"alike at three places": {"abcde", "axcye", list(keep(1), put("xcy"), cut(3), keep(1))},
		"turned round":          {"abc", "cba", list(put("cba"), cut(3))},
		"the same letters":      {"ab", "ba", list(put("ba"), cut(2))},
		"lines":                 {"one\ntwo\n", "one\n2\n", list(keep(4), put("2"), cut(3), keep(1))},
	}
}

// ends are the ends of what pairs may be.
func ends() map[string]pair {
	most, bytes := full(api.MaxLen), every()
	upper := strings.ToUpper(most)
	const n = api.MaxLen
	return map[string]pair{
		"nothing, nothing":                  {"", "", nil},
		"one, nothing":                      {"a", "", list(cut(1))},
		"nothing, one":                      {"", "a", list(put("a"))},
		"some, nothing":                     {"abc", "", list(cut(3))},
		"nothing, some":                     {"", "abc", list(put("abc"))},
		"equal of one":                      {"a", "a", list(keep(1))},
		"equal":                             {"abc", "abc", list(keep(3))},
		"equal, like letters":               {"aaa", "aaa", list(keep(3))},
		"ahead and behind overlap, put":     {"aa", "aaa", list(keep(2), put("a"))},
		"ahead and behind overlap, cut":     {"aaa", "aa", list(keep(2), cut(1))},
		"overlap, one":                      {"a", "aaaa", list(keep(1), put("aaa"))},
		"overlap, cut to one":               {"aaaa", "a", list(keep(1), cut(3))},
		"overlap by turns, put":             {"abab", "ababab", list(keep(4), put("ab"))},
		"overlap by turns, cut":             {"ababab", "abab", list(keep(4), cut(2))},
		"overlap within, put":               {"xaay", "xaaay", list(keep(3), put("a"), keep(1))},
		"overlap within, cut":               {"xaaay", "xaay", list(keep(3), cut(1), keep(1))},
		"overlap in part, put":              {"aba", "ababa", list(keep(3), put("ba"))},
		"overlap in part, cut":              {"ababa", "aba", list(keep(3), cut(2))},
		"overlap behind another, put":       {"aab", "aaab", list(keep(2), put("a"), keep(1))},
		"the one within the other":          {"b", "abc", list(put("abc"), cut(1))},
		"the other within the one":          {"abc", "b", list(put("b"), cut(3))},
		"the longest, equal":                {most, strings.Clone(most), list(keep(n))},
		"the longest, cut":                  {most, "", list(cut(n))},
		"the longest, put":                  {"", most, list(put(most))},
		"the longest, another":              {most, upper, list(put(upper), cut(n))},
		"the longest, changed ahead":        {most, "A" + most[1:], list(put("A"), cut(1), keep(n-1))},
		"the longest, changed within":       {most, most[:n/2] + "A" + most[n/2+1:], list(keep(n/2), put("A"), cut(1), keep(n/2-1))},
		"the longest, changed behind":       {most, most[:n-1] + "A", list(keep(n-1), put("A"), cut(1))},
		"the longest, changed at both ends": {most, "A" + most[1:n-1] + "A", list(put("A"+most[1:n-1]+"A"), cut(n))},
		"the longest, one less ahead":       {most, most[1:], list(cut(1), keep(n-1))},
		"the longest, one less behind":      {most, most[:n-1], list(keep(n-1), cut(1))},
		"to the longest, ahead":             {most[1:], most, list(put(most[:1]), keep(n-1))},
		"to the longest, behind":            {most[:n-1], most, list(keep(n-1), put(most[n-1:]))},
		"the longest of like letters":       {strings.Repeat("a", n), strings.Repeat("a", n-1), list(keep(n-1), cut(1))},
		"to the longest of like letters":    {strings.Repeat("a", n-1), strings.Repeat("a", n), list(keep(n-1), put("a"))},
		"any bytes, equal":                  {bytes, every(), list(keep(256))},
		"any bytes, cut":                    {bytes, bytes[:10] + bytes[250:], list(keep(10), cut(240), keep(6))},
		"any bytes, put":                    {bytes[:10] + bytes[250:], bytes, list(keep(10), put(bytes[10:250]), keep(6))},
		"bytes of 0":                        {"\x00", "\x00\x00", list(keep(1), put("\x00"))},
		"letters alike by half":             {"é", "è", list(keep(1), put("\xa8"), cut(1))},
		"letters alike by the end":          {"é", "ũ", list(put("\xc5"), cut(1), keep(1))},
		"great letters are others":          {"ABC", "abc", list(put("abc"), cut(3))},
	}
}

// allPairs are all pairs that may be, but for the short ones.
func allPairs() map[string]pair {
	all := ends()
	for name, p := range pairs() {
		all["ordinary: "+name] = p
	}
	return all
}

// leads: does Between answer just this edit, may it be, and does it lead from the one to the other?
func leads(t *testing.T, p pair) {
	t.Helper()
	got, e := edit.Between(p.s, p.t)
	if !slices.Equal(got, p.want) || e != api.OK {
		t.Errorf("%s, %s: %s, %d, want %s", brief(p.s), brief(p.t), brief(got), e, brief(p.want))
	}
	if !comp.May(got) {
		t.Errorf("%s, %s: %s may not be", brief(p.s), brief(p.t), brief(got))
	}
	if text, f := apply.Apply(p.s, got); text != p.t || f != api.OK {
		t.Errorf("%s, %s: to %s, %d", brief(p.s), brief(p.t), brief(text), f)
	}
}

// P8.2

func TestBetween(t *testing.T) {
	for name, p := range pairs() {
		t.Run(name, func(t *testing.T) { leads(t, p) })
	}
}

func TestBetweenAtTheEdges(t *testing.T) {
	for name, p := range ends() {
		t.Run(name, func(t *testing.T) { leads(t, p) })
	}
}

// longest tries every end that two texts may have alike, from the longest on.
func longest(s, u string) (int, int) {
	ahead := min(len(s), len(u))
	for !strings.HasPrefix(u, s[:ahead]) {
		ahead--
	}
	s, u = s[ahead:], u[ahead:]
	behind := min(len(s), len(u))
	for !strings.HasSuffix(u, s[len(s)-behind:]) {
		behind--
	}
	return ahead, behind
}

// Every two short texts: as much as may be is kept ahead, then as much as may be of the rest behind.
func TestBetweenEveryTwoShortTexts(t *testing.T) {
	all := texts("ab", 6)
	for _, s := range all {
		for _, u := range all {
			ahead, behind := longest(s, u)
			m := made{s, ahead, len(s) - ahead - behind, u[ahead : len(u)-behind], nil}
			leads(t, pair{s, u, model(m)})
			if t.Failed() {
				return
			}
		}
	}
}

// Of the edits that Make makes, Between finds those that put and cut no like ends.
func TestBetweenFindsWhatMakeMade(t *testing.T) {
	for n := range 6 {
		s := full(n)
		for at := range n + 1 {
			for cut := range n - at + 1 {
				for _, put := range []string{"", "X", "XY"} {
					cs, _ := edit.Make(s, at, cut, put)
					u, _ := apply.Apply(s, cs)
					leads(t, pair{s, u, cs})
				}
			}
		}
	}
}

// Texts above MaxDoc are no matter here, only those above MaxLen.
func TestBetweenAboveMaxDoc(t *testing.T) {
	doc := full(api.MaxDoc)
	leads(t, pair{"", doc + "A", list(put(doc + "A"))})
	leads(t, pair{doc + "A", doc + "B", list(keep(api.MaxDoc), put("B"), cut(1))})
	leads(t, pair{doc + "A", doc + "A", list(keep(api.MaxDoc + 1))})
}

func TestBetweenRefusesTooMuch(t *testing.T) {
	most := full(api.MaxLen)
	for name, p := range map[string]pair{
		"the one":                 {most + "x", "", nil},
		"the one, another":        {most + "x", "abc", nil},
		"the one, cut by one":     {most + "x", most, nil},
		"the other":               {"", most + "x", nil},
		"the other, another":      {"abc", most + "x", nil},
		"the other, more by one":  {most, most + "x", nil},
		"both":                    {most + "x", most + "y", nil},
		"both, equal":             {most + "x", most + "x", nil},
		"the one, far":            {full(1 << 20), "", nil},
		"the other, far":          {"", full(1 << 20), nil},
		"both, far":               {full(1 << 20), full(1 << 20), nil},
		"the one far, both above": {full(1 << 20), most + "x", nil},
	} {
		t.Run(name, func(t *testing.T) {
			if got, e := edit.Between(p.s, p.t); got != nil || e != api.ErrEditForm {
				t.Errorf("%d, %d bytes: %s, %d", len(p.s), len(p.t), brief(got), e)
			}
		})
	}
}

// The rules of all calls.

// mark is a piece that no answer has.
var mark = api.Comp{Kind: 77, N: 77, Text: "spare"}

// within: does a text lie, be it in part, in another one's memory?
func within(s, in string) bool {
	if s == "" || in == "" {
		return false
	}
	a, b := uintptr(unsafe.Pointer(unsafe.StringData(s))), uintptr(unsafe.Pointer(unsafe.StringData(in)))
	return a < b+uintptr(len(in)) && b < a+uintptr(len(s))
}

// apart: do two answers of one question lie in memory of their own, and not in a text that was handed in?
func apart(t *testing.T, name string, one, two []api.Comp, handed ...string) {
	t.Helper()
	for i := range one {
		if within(one[i].Text, two[i].Text) || slices.ContainsFunc(handed, func(s string) bool { return within(one[i].Text, s) }) {
			t.Errorf("%s: shares memory", name)
		}
	}
	if len(one) > 0 && &one[0] == &two[0] {
		t.Errorf("%s: one list for two", name)
	}
}

func TestAnswersAreNewMemory(t *testing.T) {
	for name, m := range right() {
		one, _ := edit.Make(m.s, m.at, m.cut, m.put)
		two, _ := edit.Make(m.s, m.at, m.cut, m.put)
		apart(t, name, one, two, m.s, m.put)
	}
	for name, p := range allPairs() {
		one, _ := edit.Between(p.s, p.t)
		two, _ := edit.Between(p.s, p.t)
		apart(t, name, one, two, p.s, p.t)
	}
}

// A list that was answered is its caller's own: a later call tells the same.
func TestAnswersStay(t *testing.T) {
	m, p := ordinary()["put and cut within"], pairs()["change, alike at both"]
	for range 2 {
		made, _ := edit.Make(m.s, m.at, m.cut, m.put)
		led, _ := edit.Between(p.s, p.t)
		for _, cs := range [][]api.Comp{made, led} {
			for i := range cs {
				cs[i] = mark
			}
			_ = append(cs, mark)
		}
		makes(t, m)
		leads(t, p)
	}
}

func TestCallsAtOneTime(t *testing.T) {
	m, p := ordinary()["put and cut within"], pairs()["change, alike at both"]
	var right atomic.Int64
	var group sync.WaitGroup
	for range 8 {
		group.Add(1)
		go func() {
			defer group.Done()
			for range 100 {
				made, e := edit.Make(m.s, m.at, m.cut, m.put)
				led, f := edit.Between(p.s, p.t)
				none, g := edit.Make(m.s, -1, m.cut, m.put)
				if slices.Equal(made, m.want) && slices.Equal(led, p.want) && e == api.OK && f == api.OK && none == nil && g == api.ErrEditForm {
					right.Add(1)
				}
			}
		}()
	}
	group.Wait()
	if right.Load() != 800 {
		t.Errorf("%d of 800 calls were right", right.Load())
	}
}
