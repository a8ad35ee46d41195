package pack_test

import (
	"fmt"
	"math/rand"
	"slices"
	"strconv"
	"strings"
	"testing"

	"minuet/api"
	"minuet/pack"
)

// P17.2: texts that are some message's, and texts that are none's.

// asked: is a text taken just as the words say? Is it some message's?
func asked(t *testing.T, s string) bool {
	t.Helper()
	want, found := plainGet(s)
	got, e := pack.Get(s)
	if !same(got, want) || found != (e == api.OK) || !found && e != api.ErrPackForm {
		t.Fatalf("P17.2: %s: %s, %d, want %s, %v", brief(s), brief(got), e, brief(want), found)
	}
	if !found {
		return false
	}
	if again, e := pack.Put(got); again != s || e != api.OK || !pack.May(got) {
		t.Fatalf("P17.2: %s: put again it is %s, %d", brief(s), brief(again), e)
	}
	return true
}

func TestTextsOfNoMessage(t *testing.T) {
	for _, s := range []string{
		"", "P", "C", "S", "0", ",", ":", "\x00", " ", "p0,0,0,0,", "c0,0,0,", "Q0,0,0,0,", "0,0,0,0,", "PP0,0,0,0,", "P0,0,0,", "P0,0,0,0", "P0,0,0,0,,", "P0,0,0,0,\n", "P0,0,0,0,0,", "P0 ,0,0,0,", "P 0,0,0,0,",
		// Numbers that are not as they are put.
		"P,0,0,0,", "P0,,0,0,", "P0,0,,0,", "P0,0,0,,", "P00,0,0,0,", "P01,0,0,0,", "P1,01,0,0,", "P1,1,007,0,", "P0,0,0,00,", "P-0,0,0,0,", "P-1,0,0,0,", "P+0,0,0,0,", "P+1,0,0,0,", "P0,1_0,0,0,", "P0,0x1,0,0,", "P0,1e1,0,0,", "P0,1.0,0,0,", "P0, 1,0,0,", "P0,1 ,0,0,", "P0,a,0,0,", "P0,\xef\xbc\x91,0,0,", "P0,1:0,0,", "P0;0;0;0;", "P0:0:0:0:",
		// Numbers beyond their ends.
		"P3,0,0,0,", "P0,4097,0,0,", "P0,0,4097,0,", "P0,99999,0,0,", "P0,16777216,0,0,", "P0,16777217,0,0,", "P0,99999999,0,0,", "P0,999999999,0,0,", "P0,4294967296,0,0,", "P4294967296,0,0,0,", "P0,18446744073709551616,0,0,", "P0,18446744073709551617,1,0,", "P0,99999999999999999999,0,0,", "P0,0,0,4294967296,", "P0,0,0,18446744073709551616,", "P0," + strings.Repeat("1", 1000) + ",0,0,", "P0,0,0," + strings.Repeat("9", 400000) + ",", "P0," + strings.Repeat("0", 400000) + ",0,0,",
		// Lists that say more than there is, and less.
		"P0,0,1,1,", "P0,0,1,2,k1,", "P0,0,1,99,k1,", "P0,0,1,4097,k1,", "P0,0,1,16777216,k1,", "P0,0,1,9999999,", "P0,0,1,0,k1,", "P0,0,1,1,k1,c1,", "P0,0,0,999999999,", "C0,0,1,", "C0,0,3,", "C0,0,4,", "C0,0,16777216,", "C0,0,2,0,1,0,0,", "C0,0,3,0,1,0,0,0,2,0,0,", "C0,0,0,0,1,0,0,", "C0,0,1,0,1,0,1,", "C0,0,1,0,1,0,8192,", "C0,0,1,0,1,0,8193,0,0,0,0,0,0,", "C0,0,1,0,1,0,16777216,0,0,0,0,0,0,", "C0,0,1,0,1,0,1,2,0,0,0,0,1,", "C0,0,1,0,1,0,1,2,0,0,0,0,2048,0,", "C0,0,1,0,1,0,1,2,0,0,0,0,16777216,0,", "S0,0,0,0,0,0,0:0,1,2,0,0,0,0,0,", "S0,0,0,0,0,0,0:0,1,0,", "S0,0,0,0,0,0,0:0,1,16777216,0,0,0,0,0,", "S0,0,0,0,0,0,0:0,1,1,0,0,0,0,1,", "S0,0,0,0,0,0,0:0,1,1,0,0,0,0,16777216,",
		// Texts that say more bytes than there are, and less.
		"P0,0,1,1,p", "P0,0,1,1,p1", "P0,0,1,1,p1:", "P0,0,1,1,p2:a", "P0,0,1,1,p0:", "P0,0,1,1,p0:a", "P0,0,1,1,p1:ab", "P0,0,1,1,p4096:a", "P0,0,1,1,p16777216:a", "P0,0,1,1,p99999999999999999999:a", "P0,0,1,1,p9223372036854775807:a", "P0,0,1,1,p18446744073709551617:a", "P0,0,1,1,p-1:a", "P0,0,1,1,p01:a", "P0,0,1,1,p1,a", "P0,0,1,1,p:a", "P0,0,1,1,p1::a", "S0,0,0,0,0,0,", "S0,0,0,0,0,0,0", "S0,0,0,0,0,0,0,0,1,1,0,0,0,0,0,", "S0,0,0,0,0,0,:0,1,1,0,0,0,0,0,", "S0,0,0,0,0,0,1:0,1,1,0,0,0,0,0,", "S0,0,0,0,0,0,300:0,1,1,0,0,0,0,0,", "S0,0,0,0,0,0,16777216:0,1,1,0,0,0,0,0,", "S0,0,0,0,0,0,00:0,1,1,0,0,0,0,0,",
		// Other letters.
		"P0,0,1,1,K1,", "P0,0,1,1,P1:a", "P0,0,1,1,C1,", "P0,0,1,1,x1,", "P0,0,1,1,01,", "P0,0,1,1,1,", "P0,0,1,1,\x001,", "P0,0,1,1,k1:", "P0,0,1,1,c1:", "P0,0,1,1,k1:a", "P0,0,1,1,kk1,", "P0,0,1,1,k,", "P0,0,1,1,p,",
		// 2 for Refused, and others.
		"S0,0,0,0,0,2,0:0,1,1,0,0,0,0,0,", "S0,0,0,0,0,3,0:0,1,1,0,0,0,0,0,", "S0,0,0,0,0,10,0:0,1,1,0,0,0,0,0,", "S0,0,0,0,0,01,0:0,1,1,0,0,0,0,0,", "S0,0,0,0,0,-1,0:0,1,1,0,0,0,0,0,", "S0,0,0,0,0,,0:0,1,1,0,0,0,0,0,", "S0,0,0,0,0,true,0:0,1,1,0,0,0,0,0,", "S0,0,0,0,0,257,0:0,1,1,0,0,0,0,0,", "S0,0,0,0,0,4294967297,0:0,1,1,0,0,0,0,0,",
		// Fields out of their order, or less of them, or more.
		"S0,0,0,0,0,0:0,0,1,1,0,0,0,0,0,", "S0,0,0,0,0:0,0,0,1,1,0,0,0,0,0,", "S0,0,0,0,0,0,0,1,1,0,0,0,0,0,0:", "S0,0,0,0,0,0,0:1,0,1,0,0,0,0,0,", "S0,0,0,0,0,0,0:0,1,1,0,0,0,0,", "S0,0,0,0,0,0,0:0,1,1,0,0,0,0,0,0,", "P0,0,1,0,1,k1,", "P1,k1,0,0,1,", "C0,1,0,1,0,0,0,", "C0,0,1,0,1,1,0,k1,", "C0,0,1,0,1,1,k1,", "C0,0,1,0,1,0,1,2,0,0,0,0,", "C0,0,1,0,1,0,1,2,0,0,0,1,5,", "C0,0,1,1,0,0,0,", "C1,4096,0,0,", "C0,0,0,0,", "0,0,0,0,P", "0P,0,0,0,",
		// What each Kind's text would be of another Kind.
		"C0,0,0,0,", "S0,0,0,0,", "S0,0,0,", "P0,0,0,", "C0,0,1,1,k1,", "P0,0,0,0,0,0,0:0,1,1,0,0,0,0,0,",
	} {
		refusedText(t, "none's", s)
		asked(t, s)
	}
}

// Each beginning of a message's text, and each of its ends.
func TestBeginningsAndEnds(t *testing.T) {
	for _, row := range rows() {
		s := row.text
		for k := range s {
			refusedText(t, "a beginning", s[:k])
			if k > 0 {
				asked(t, s[k:])
			}
		}
		for c := range 256 {
			refusedText(t, "something behind", s+string([]byte{byte(c)}))
			refusedText(t, "something ahead", string([]byte{byte(c)})+s)
		}
		for _, u := range rows() {
			refusedText(t, "two", s+u.text)
		}
	}
}

// Each byte as each other one, cut, put twice, and changed with the next one.
func TestTurnedBytes(t *testing.T) {
	yes, no := 0, 0
	ask := func(s string) {
		if asked(t, s) {
			yes++
		} else {
			no++
		}
	}
	for _, row := range rows() {
		for at := range row.text {
			b := []byte(row.text)
			for c := range 256 {
				b[at] = byte(c)
				ask(string(b))
			}
			ask(row.text[:at] + row.text[at+1:])
			for _, c := range "0192,:kpcPCS-+ \x00" {
				ask(row.text[:at] + string(c) + row.text[at:])
			}
			if at > 0 {
				ask(row.text[:at-1] + row.text[at:at+1] + row.text[at-1:at] + row.text[at+1:])
			}
		}
	}
	if yes < 4000 || no < 100000 {
		t.Errorf("the test is wrong: %d were taken, %d refused", yes, no)
	}
}

// runs tells where a text has digits, each time from where up to where.
func runs(s string) [][2]int {
	var out [][2]int
	for from := 0; from < len(s); from++ {
		to := from
		for to < len(s) && '0' <= s[to] && s[to] <= '9' {
			to++
		}
		if to > from {
			out = append(out, [2]int{from, to})
			from = to
		}
	}
	return out
}

// Each number of each text as others, in their form and not.
func TestTurnedNumbers(t *testing.T) {
	plain := []string{"0", "1", "2", "3", "4", "5", "6", "7", "8", "9", "10", "11", "12", "300", "301", "2048", "2049", "4095", "4096", "4097", "8192", "8193", "16777215", "16777216", "16777217", "99999999", "100000000", "2147483647", "2147483648", "4294967296", "4294967297", "9223372036854775807", "9223372036854775808", "18446744073709551615", "18446744073709551616", "18446744073709551617", "99999999999999999999"}
	yes := 0
	for _, row := range rows() {
		for _, r := range runs(row.text) {
			ahead, was, behind := row.text[:r[0]], row.text[r[0]:r[1]], row.text[r[1]:]
			for _, n := range plain {
				if asked(t, ahead+n+behind) {
					yes++
				}
			}
			k, _ := strconv.Atoi(was)
			for _, n := range []string{strconv.Itoa(k - 1), strconv.Itoa(k + 1), "-" + was, "+" + was, "0" + was, was + "0", "00" + was, " " + was, was + " ", was + "\x00", "\n" + was, "0x" + was, was + ".0", was + "e0", "", "-", ",", ":", "٣", strings.Repeat("0", 30) + was, was + strings.Repeat("0", 30)} {
				asked(t, ahead+n+behind)
			}
		}
	}
	if yes < 1500 {
		t.Errorf("the test is wrong: %d were taken", yes)
	}
}

// Of each number that is put, no other form is taken.
func TestOtherFormsOfNumbers(t *testing.T) {
	for _, row := range []string{"P~,0,0,0,", "P0,~,0,0,", "P0,0,~,0,", "P0,0,1,1,k~,", "P0,0,1,1,c~,", "P0,0,1,1,p~:a", "C~,0,0,", "C0,~,0,", "C0,0,~,0,1,0,0,", "C0,0,1,~,1,0,0,", "C0,0,1,0,~,0,0,", "C0,0,1,0,1,~,k1,0,", "C0,0,1,0,1,0,~,0,0,0,0,0,0,", "C0,0,1,0,1,0,1,0,~,0,0,0,0,", "C0,0,1,0,1,0,1,~,1,1,0,0,0,", "C0,0,1,0,1,0,1,1,1,~,0,0,0,", "C0,0,1,0,1,0,1,3,1,0,~,1,0,", "C0,0,1,0,1,0,1,3,1,0,0,~,0,", "C0,0,1,0,1,0,1,2,0,0,0,0,~,0,", "C0,0,1,0,1,0,1,2,0,0,0,0,1,~,", "S~,0,0,0,0,0,0:0,1,1,0,0,0,0,0,", "S0,0,~,0,0,0,0:0,1,1,0,0,0,0,0,", "S0,0,0,~,0,0,0:0,1,1,0,0,0,0,0,", "S0,0,0,0,~,0,0:0,1,1,0,0,0,0,0,", "S0,0,0,0,0,~,0:0,1,1,0,0,0,0,0,", "S0,0,0,0,0,0,~:x0,1,1,0,0,0,1,0,", "S0,0,0,0,0,0,0:0,~,1,0,0,0,0,0,", "S0,0,0,0,0,0,0:0,1,~,0,0,0,0,0,", "S0,0,0,0,0,0,0:1,2,1,~,0,0,0,0,"} {
		if !asked(t, strings.Replace(row, "~", "1", 1)) {
			t.Errorf("the test is wrong: %s", row)
		}
		for _, n := range []string{"01", "001", "+1", "-1", " 1", "1 ", "\t1", "1\n", "", "-", "+", "1.", "1.0", "1e0", "0x1", "0b1", "0o1", "1_", "_1", "1\x00", "\xef\xbc\x91", "-0", "+0", "00", strings.Repeat("0", 100) + "1", "1" + strings.Repeat("0", 30), "18446744073709551617", "4294967297", "65537", "a", "'1'", "1,", ",1"} {
			s := strings.Replace(row, "~", n, 1)
			if asked(t, s) && n != "65537" {
				t.Errorf("P17.2: %s was taken", s)
			}
		}
	}
}

// Every short row of what texts are made of, ahead, in the middle of each Kind's text, and at its end.
func TestEveryShortRow(t *testing.T) {
	signs := []string{"P", "C", "S", "0", "1", "2", ",", ":", "k", "p", "c", "1,", "0,", "p1:"}
	taken := 0
	var more func(ahead, behind string, n int)
	more = func(ahead, behind string, n int) {
		if asked(t, ahead+behind) {
			taken++
		}
		for _, s := range signs {
			if n > 0 {
				more(ahead+s, behind, n-1)
			}
		}
	}
	for _, around := range [][2]string{
		{"", ""}, {"", "0,0,0,"}, {"P", "0,0,"}, {"P0,0,", ""}, {"P0,0,1,", ""}, {"P0,0,1,2,k1,", ""}, {"P0,0,1,1,", "k1,"}, {"C0,0,", ""}, {"C0,0,1,0,", ""}, {"C0,0,1,0,1,0,", ""}, {"C0,0,1,0,1,0,1,", "0,0,0,"}, {"C0,0,2,0,1,0,0,", ""},
		{"S0,0,0,0,", "0:0,1,1,0,0,0,0,0,"}, {"S0,0,0,0,0,0,", "0,1,1,0,0,0,0,0,"}, {"S0,0,0,0,0,0,0:", "0,0,0,0,0,"}, {"S0,0,0,0,0,0,0:0,2,2,0,0,0,0,1,", "0,0,0,"}, {"S0,0,0,0,0,0,0:0,1,1,0,0,", ""},
	} {
		more(around[0], around[1], 4)
	}
	if taken < 400 {
		t.Errorf("the test is wrong: %d were taken", taken)
	}
}

// Fields of a message's text changed with each other.
func TestFieldsOutOfTheirOrder(t *testing.T) {
	turned := 0
	for _, row := range rows() {
		parts := strings.SplitAfter(row.text, ",")
		for i := range parts {
			for k := range i {
				other := slices.Clone(parts)
				other[i], other[k] = other[k], other[i]
				if s := strings.Join(other, ""); s != row.text && !asked(t, s) {
					turned++
				}
			}
		}
	}
	if turned < 4000 {
		t.Errorf("the test is wrong: %d were refused", turned)
	}
}

// piece makes an edit's piece that may be, of at most n bytes, n above 0.
func piece(r *rand.Rand, n int) api.Comp {
	n = 1 + r.Intn(n)
	switch r.Intn(3) {
	case 0:
		return keep(n)
	case 1:
		return cut(n)
	}
	b := make([]byte, n)
	for i := range b {
		b[i] = "ab01,:kpc\x00\xff\n"[r.Intn(12)]
	}
	return put(string(b))
}

// chanceEdit makes an edit that may be.
func chanceEdit(r *rand.Rand) []api.Comp {
	var cs []api.Comp
	for range r.Intn(6) {
		c := piece(r, []int{1, 12, 300, 600}[r.Intn(4)])
		if n := len(cs); n == 0 || cs[n-1].Kind != c.Kind && (cs[n-1].Kind != api.CompCut || c.Kind != api.CompPut) {
			cs = append(cs, c)
		}
	}
	return cs
}

// number makes a number from 0 to most, often an end of these.
func number(r *rand.Rand, most int) int {
	switch r.Intn(5) {
	case 0:
		return 0
	case 1:
		return most
	case 2:
		return r.Intn(min(most, 12) + 1)
	}
	return r.Intn(most + 1)
}

// chanceSteps makes steps that may be.
func chanceSteps(r *rand.Rand) []api.Step {
	var ss []api.Step
	for range r.Intn(8) {
		id := number(r, api.MaxIds-1)
		switch r.Intn(4) {
		case 0:
			ss = append(ss, drop(id))
		case 1:
			ss = append(ss, create(id, r.Intn(8)))
		case 2:
			ks := make([]int, r.Intn(6))
			for i := range ks {
				ks[i] = number(r, api.MaxIds-1)
			}
			ss = append(ss, kids(id, ks...))
		case 3:
			to := number(r, api.MaxLen)
			ss = append(ss, span(id, number(r, to), to))
		}
	}
	return ss
}

// chanceText makes a text of at most MaxDoc bytes.
func chanceText(r *rand.Rand) string {
	words := []string{"{", "}", "[", "]", ":", ",", `"a"`, "0", " ", "// x\n", "true", "\xff", "[1,2],", `"b":3,`}
	var b strings.Builder
	for range r.Intn([]int{4, 12, 40}[r.Intn(3)]) {
		b.WriteString(words[r.Intn(len(words))])
	}
	return b.String()
}

// chanceMsg makes a message that may be.
func chanceMsg(r *rand.Rand) api.Msg {
	m := api.Msg{Kind: r.Intn(3), Client: r.Intn(3), Rev: number(r, api.MaxRev)}
	switch m.Kind {
	case api.MsgPoll:
		if m.Seq = number(r, api.MaxRev); m.Seq > 0 {
			m.Edit = chanceEdit(r)
		}
	case api.MsgChanges:
		for range r.Intn(4) {
			m.Entries = append(m.Entries, api.Entry{Client: r.Intn(3), Seq: 1 + number(r, api.MaxRev-1), Edit: chanceEdit(r), Delta: chanceSteps(r)})
		}
	case api.MsgSnap:
		m.Seq, m.From, m.Last, m.Refused = number(r, api.MaxRev), number(r, api.MaxRev), number(r, api.MaxRev), r.Intn(2) > 0
		m.Text = chanceText(r)
		m.Tree = renewed(chanceText(r), m.Text)
	}
	return m
}

// mangled is a text with something turned.
func mangled(r *rand.Rand, s string) string {
	at, to := r.Intn(len(s)+1), r.Intn(len(s)+1)
	at, to = min(at, to), max(at, to)
	b := []byte(s)
	switch r.Intn(5) {
	case 0:
		if at < len(b) {
			b[at] = "0123456789,:kpcPCS"[r.Intn(18)]
		}
	case 1:
		return s[:at] + s[to:]
	case 2:
		return s[:to] + s[at:]
	case 3:
		return s[:at] + fmt.Sprint(number(r, api.MaxIds)) + s[at:]
	case 4:
		if at < len(b) {
			b[at]++
		}
	}
	return string(b)
}

func TestMessagesByChance(t *testing.T) {
	r := rand.New(rand.NewSource(171))
	var kinds [3]int
	yes, no := 0, 0
	for range 20000 {
		m := chanceMsg(r)
		s := taken(t, "by chance", m)
		kinds[m.Kind]++
		for range 5 {
			u := mangled(r, s)
			if r.Intn(3) == 0 {
				u = mangled(r, u)
			}
			if asked(t, u) {
				yes++
			} else {
				no++
			}
		}
	}
	if slices.Min(kinds[:]) < 6000 || yes < 10000 || no < 30000 {
		t.Errorf("the test is wrong: %v of each Kind, %d were taken, %d refused", kinds, yes, no)
	}
}
