package frame_test

import (
	"fmt"
	"math/rand"
	"slices"
	"strconv"
	"strings"
	"testing"

	"minuet/api"
)

// P18.1: texts that are some message's frame, and texts that are none's.

func TestTextsThatAreNoFrames(t *testing.T) {
	for _, s := range []string{
		"", ":", "::", ":::", "0", "9", "P", "\x00", " ", "0:", "0:0", "0:0:", ":0:", "0::", "1:0:\x00", "1:80:P", "9:2096:", "9:2096", "9::", "9:P0,0,0,0,", "2096:P0,0,0,0,", "P0,0,0,0,", ":P0,0,0,0,", "::P0,0,0,0,",
		// A length or a sum without digits, and in another form.
		":2096:P0,0,0,0,", "9::P0,0,0,0,", "09:2096:P0,0,0,0,", "9:02096:P0,0,0,0,", "009:2096:P0,0,0,0,", "+9:2096:P0,0,0,0,", "-9:2096:P0,0,0,0,", "9:+2096:P0,0,0,0,", "9:-2096:P0,0,0,0,", " 9:2096:P0,0,0,0,", "9 :2096:P0,0,0,0,", "9: 2096:P0,0,0,0,", "9:2096 :P0,0,0,0,", "9:2096: P0,0,0,0,", "9:2096:P0,0,0,0, ", "\n9:2096:P0,0,0,0,", "9\n:2096:P0,0,0,0,", "9:2096:P0,0,0,0,\n", "9.0:2096:P0,0,0,0,", "9e0:2096:P0,0,0,0,", "9:2.096e3:P0,0,0,0,", "9:2_096:P0,0,0,0,", "0x9:2096:P0,0,0,0,", "9:0x830:P0,0,0,0,", "9:830:P0,0,0,0,", "1001:2096:P0,0,0,0,", "011:2096:P0,0,0,0,", "0o11:2096:P0,0,0,0,", "nine:2096:P0,0,0,0,", "٩:2096:P0,0,0,0,", "９:2096:P0,0,0,0,", "9\x00:2096:P0,0,0,0,", "9:2096\x00:P0,0,0,0,",
		// Others than the text's.
		"8:2096:P0,0,0,0,", "10:2096:P0,0,0,0,", "0:2096:P0,0,0,0,", "1:2096:P0,0,0,0,", "90:2096:P0,0,0,0,", "99:2096:P0,0,0,0,", "9:2095:P0,0,0,0,", "9:2097:P0,0,0,0,", "9:0:P0,0,0,0,", "9:209:P0,0,0,0,", "9:20960:P0,0,0,0,", "9:1002099:P0,0,0,0,", "9:-997907:P0,0,0,0,", "9:2096:P1,0,0,0,", "9:2097:P1,0,0,0,", "9:2096:P0,0,1,0,", "9:2096:P0,0,0,0", "8:1700:P0,0,0,0", "9:2096:P0,0,0,0,,", "10:2536:P0,0,0,0,,",
		// More digits than there ever are.
		"4294967305:2096:P0,0,0,0,", "18446744073709551625:2096:P0,0,0,0,", "9:4294969392:P0,0,0,0,", "9:18446744073709553712:P0,0,0,0,", strings.Repeat("0", 100) + "9:2096:P0,0,0,0,", "9:" + strings.Repeat("0", 100) + "2096:P0,0,0,0,", "9" + strings.Repeat("0", 100) + ":2096:P0,0,0,0,", "9:2096" + strings.Repeat("0", 100) + ":P0,0,0,0,", strings.Repeat("9", 1000) + ":2096:P0,0,0,0,", "9:" + strings.Repeat("2096", 1000) + ":P0,0,0,0,",
		// Another sign in place of a colon, or none, or two.
		"9,2096:P0,0,0,0,", "9:2096,P0,0,0,0,", "9,2096,P0,0,0,0,", "9;2096;P0,0,0,0,", "9 2096 P0,0,0,0,", "92096:P0,0,0,0,", "9:2096P0,0,0,0,", "92096P0,0,0,0,", "9::2096:P0,0,0,0,", "9:2096::P0,0,0,0,", ":9:2096:P0,0,0,0,", "9\x002096\x00P0,0,0,0,", "9：2096：P0,0,0,0,", "9.2096.P0,0,0,0,",
		// Fields out of their order, or more of them.
		"2096:9:P0,0,0,0,", "9:P0,0,0,0,:2096", "9:P0,0,0,0,2096:", "P0,0,0,0,9:2096:", "P0,0,0,0,:9:2096", "2096:P0,0,0,0,9:", "9:9:2096:P0,0,0,0,", "9:2096:2096:P0,0,0,0,", "9:2096:9:2096:P0,0,0,0,", "9:2096:0:P0,0,0,0,", "P9:2096:0,0,0,0,", "P:9:2096:0,0,0,0,",
	} {
		none(t, "no frame", s)
		asked(t, s)
	}
}

// Right numbers of texts that no message has, frames within frames among them.
func TestRightNumbersOfWrongTexts(t *testing.T) {
	for _, text := range []string{
		"", "x", "0", ":", "\x00", "P", "P0,0,0,0", "P0,0,0,0,,", " P0,0,0,0,", "P00,0,0,0,", "P3,0,0,0,", "P0,4097,0,0,", "P0,0,0,1,k5,", "P0,0,1,1,k5", "P0,0,1,2,k5,", "P0,0,1,1,k0,", "P0,0,1,2,k1,k1,", "P0,0,1,1,p0:", "p0,0,0,0,", "C0,0,4,0,1,0,0,0,2,0,0,0,3,0,0,0,4,0,0,", "C0,0,1,0,0,0,0,", "S0,0,0,0,0,0,0:0,1,0,", "S0,0,0,0,0,2,0:0,1,1,0,0,0,0,0,", "Q0,0,0,0,", "P0,0,0,0,P0,0,0,0,", "9:2096:P0,0,0,0,", "0:0:", ":P0,0,0,0,", strings.Repeat("\x00", 1000), strings.Repeat("P", api.MaxFrame), strings.Repeat("x", api.MaxFrame+1), strings.Repeat("\x00", 3*api.MaxFrame),
	} {
		none(t, "a text of no message", wrapped(text))
	}
	for _, row := range short() {
		none(t, "a frame's frame", wrapped(row.frame))
		none(t, "a frame's text", row.frame[strings.IndexByte(row.frame, ':')+1:])
	}
}

// Each beginning of a frame, each of its ends, and each with something ahead or behind.
func TestBeginningsAndEnds(t *testing.T) {
	for _, row := range short() {
		s := row.frame
		for k := range s {
			none(t, "a beginning", s[:k])
			asked(t, s[k:])
		}
		for c := range 256 {
			none(t, "something behind", s+string([]byte{byte(c)}))
			none(t, "something ahead", string([]byte{byte(c)})+s)
		}
		for _, other := range short() {
			none(t, "two", s+other.frame)
			_, text, _ := strings.Cut(other.frame, ":")
			none(t, "a frame and a part", s+text)
		}
	}
}

// Each of the two numbers as others, in their form and not.
func TestOtherNumbers(t *testing.T) {
	for _, row := range rows() {
		size, rest, _ := strings.Cut(row.frame, ":")
		sum, text, _ := strings.Cut(rest, ":")
		for _, was := range []string{size, sum} {
			n, _ := strconv.Atoi(was)
			others := []string{"", "-", "+", ":", "0", "1", "-1", "x", "-" + was, "+" + was, "0" + was, "00" + was, was + "0", was + was, was[1:], was[:len(was)-1], " " + was, was + " ", was + ",", was + ".", was + "\x00", "0x" + was, "1000000", "1000002", "1000003", "16777216", "4294967296", "9223372036854775808", "18446744073709551616", strings.Repeat("0", 30) + was, was + strings.Repeat("0", 30)}
			for _, by := range []int{-1, 1, -10, 10, -256, 256, -1000003, 1000003, 1 << 16, 1 << 32} {
				others = append(others, strconv.Itoa(n+by))
			}
			for _, other := range others {
				if other != size {
					none(t, "a length", other+":"+sum+":"+text)
				}
				if other != sum {
					none(t, "a sum", size+":"+other+":"+text)
				}
			}
		}
		none(t, "changed numbers", sum+":"+size+":"+text)
		none(t, "the text alone", text)
	}
}

// The numbers of one frame ahead of the text of another one.
func TestNumbersOfOthers(t *testing.T) {
	for i, row := range rows() {
		size, rest, _ := strings.Cut(row.frame, ":")
		sum, text, _ := strings.Cut(rest, ":")
		for k, other := range rows() {
			size2, rest2, _ := strings.Cut(other.frame, ":")
			sum2, _, _ := strings.Cut(rest2, ":")
			if i != k {
				none(t, "another one's numbers", size2+":"+sum2+":"+text)
				none(t, "another one's sum", size+":"+sum2+":"+text)
			}
			if size != size2 {
				none(t, "another one's length", size2+":"+sum+":"+text)
			}
		}
	}
}

// Every short row of what frames are made of: just the frames among them are taken.
func TestEveryShortRow(t *testing.T) {
	signs := []string{"9", "2096", "2104", "7", "1303", "0", "1", ":", "-", ",", "9:2096:", "P0,0,0,0,", "P1,0,1,0,", "C0,0,0,"}
	found := 0
	var more func(s string, n int)
	more = func(s string, n int) {
		if asked(t, s) {
			found++
		}
		for _, sign := range signs {
			if n > 0 {
				more(s+sign, n-1)
			}
		}
	}
	more("", 5)
	// Each of three messages by its five parts, and one of them by two parts too.
	if found != 4 {
		t.Errorf("P18.1: %d were taken, want 4", found)
	}
}

// A frame of which two bytes were turned may be another one, and is taken: in the text the 15th byte is four more, the 20th
// three less, so the sum is the same.
func TestTwoTurnedBytesMayBeAFrame(t *testing.T) {
	a := taken(t, "a poll", poll(0, 0, 1, put("abcdefghijklmnopqrstuvwxyz")))
	b := taken(t, "another poll", poll(0, 0, 1, put("afcdefdhijklmnopqrstuvwxyz")))
	unlike := 0
	for i := range a {
		if a[i] != b[i] {
			unlike++
		}
	}
	if len(a) != len(b) || unlike != 2 {
		t.Errorf("the test is wrong: %s, %s", brief(a), brief(b))
	}
	none(t, "one of the two", a[:26]+b[26:])
}

// number makes a number from 0 to most, often an end of these.
func number(r *rand.Rand, most int) int {
	switch r.Intn(4) {
	case 0:
		return 0
	case 1:
		return most
	}
	return r.Intn(most + 1)
}

// chanceEdit makes an edit that may be.
func chanceEdit(r *rand.Rand) []api.Comp {
	var cs []api.Comp
	for range r.Intn(5) {
		n := 1 + r.Intn([]int{1, 12, 300}[r.Intn(3)])
		b := make([]byte, n)
		for i := range b {
			b[i] = "ab019,:kpcPCS\x00\xff\n"[r.Intn(16)]
		}
		c := []api.Comp{keep(n), put(string(b)), cut(n)}[r.Intn(3)]
		if n := len(cs); n == 0 || cs[n-1].Kind != c.Kind && (cs[n-1].Kind != api.CompCut || c.Kind != api.CompPut) {
			cs = append(cs, c)
		}
	}
	return cs
}

// chanceSteps makes steps that may be.
func chanceSteps(r *rand.Rand) []api.Step {
	var ss []api.Step
	for range r.Intn(6) {
		id, to := number(r, api.MaxIds-1), number(r, api.MaxLen)
		switch r.Intn(4) {
		case 0:
			ss = append(ss, drop(id))
		case 1:
			ss = append(ss, api.Step{Kind: api.StepCreate, Id: id, Node: r.Intn(8)})
		case 2:
			ss = append(ss, kids(id, slices.Repeat([]int{number(r, api.MaxIds-1), id}, r.Intn(3))...))
		case 3:
			ss = append(ss, span(id, number(r, to), to))
		}
	}
	return ss
}

// chanceText makes a text of at most MaxDoc bytes.
func chanceText(r *rand.Rand) string {
	words := []string{"{", "}", "[", "]", ":", ",", `"a"`, "0", " ", "// x\n", "true", "\xff", "[1,2],", `"b":3,`}
	var b strings.Builder
	for range r.Intn([]int{4, 12, 40}[r.Intn(3)]) {
		b.WriteString(words[r.Intn(len(words))])
	}
	return b.String()
}

// chanceMsg makes a message that may be.
func chanceMsg(r *rand.Rand) api.Msg {
	m := api.Msg{Kind: r.Intn(3), Client: r.Intn(3), Rev: number(r, api.MaxRev)}
	switch m.Kind {
	case api.MsgPoll:
		if m.Seq = number(r, api.MaxRev); m.Seq > 0 {
			m.Edit = chanceEdit(r)
		}
	case api.MsgChanges:
		for range r.Intn(4) {
			m.Entries = append(m.Entries, api.Entry{Client: r.Intn(3), Seq: 1 + number(r, api.MaxRev-1), Edit: chanceEdit(r), Delta: chanceSteps(r)})
		}
	case api.MsgSnap:
		m.Seq, m.From, m.Last, m.Refused = number(r, api.MaxRev), number(r, api.MaxRev), number(r, api.MaxRev), r.Intn(2) > 0
		m.Text = chanceText(r)
		m.Tree = renewed(chanceText(r), m.Text)
	}
	return m
}

// mangled is a frame with something turned.
func mangled(r *rand.Rand, s string) string {
	at, to := r.Intn(len(s)+1), r.Intn(len(s)+1)
	at, to = min(at, to), max(at, to)
	b := []byte(s)
	switch r.Intn(6) {
	case 0:
		if at < len(b) {
			b[at] = "0123456789,:kpcPCS"[r.Intn(18)]
		}
	case 1:
		return s[:at] + s[to:]
	case 2:
		return s[:to] + s[at:]
	case 3:
		return s[:at] + fmt.Sprint(number(r, api.MaxIds)) + s[at:]
	case 4:
		if to < len(b) {
			b[at], b[to] = b[to], b[at]
		}
	case 5:
		// A text that was turned, with its own numbers.
		if k := strings.IndexAny(s, "PCS"); k >= 0 {
			return wrapped(mangled(r, s[k:]))
		}
	}
	return string(b)
}

func TestMessagesByChance(t *testing.T) {
	r := rand.New(rand.NewSource(181))
	var kinds [3]int
	yes, no := 0, 0
	for range 4000 {
		m := chanceMsg(r)
		s := taken(t, "by chance", m)
		kinds[m.Kind]++
		for range 4 {
			if asked(t, mangled(r, s)) {
				yes++
			} else {
				no++
			}
		}
	}
	if slices.Min(kinds[:]) < 1200 || yes < 1000 || no < 8000 {
		t.Errorf("the test is wrong: %v of each Kind, %d were taken, %d refused", kinds, yes, no)
	}
}
