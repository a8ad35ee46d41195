package frame_test

import (
	"math/rand"
	"strings"
	"testing"

	"minuet/api"
	"minuet/frame"
)

// P18.2: a frame of which one byte was turned is none.

// turned: is a frame none with each other byte at a place?
func turned(t *testing.T, s string, at int, others string) {
	t.Helper()
	b := []byte(s)
	for i := range len(others) {
		if b[at] = others[i]; b[at] == s[at] {
			continue
		}
		if m, e := frame.Get(string(b)); !nothing(m) || e != api.ErrFrameForm {
			t.Fatalf("P18.2: %s, %q at %d: %s, %d", brief(s), b[at], at, brief(m), e)
		}
	}
}

// bytes are all bytes that there are.
func bytes() string {
	b := make([]byte, 256)
	for i := range b {
		b[i] = byte(i)
	}
	return string(b)
}

func TestTurnedBytes(t *testing.T) {
	for _, row := range short() {
		for at := range row.frame {
			turned(t, row.frame, at, bytes())
		}
		if m, e := frame.Get(row.frame); !same(m, row.msg) || e != api.OK {
			t.Errorf("P18.1: %s: %s, %d", brief(row.frame), brief(m), e)
		}
	}
}

// Bytes within a put, and of a long text.
func TestTurnedBytesOfTexts(t *testing.T) {
	r := rand.New(rand.NewSource(182))
	for _, m := range []api.Msg{
		poll(1, 2, 3, put(bytes())),
		poll(1, 2, 3, put(strings.Repeat("\x00", 300)), cut(2), keep(3), put(strings.Repeat("\xff", 300))),
		changes(1, 2, api.Entry{Seq: 1, Edit: edit(put(strings.Repeat(":", 50)))}, api.Entry{Seq: 2, Edit: edit(put(strings.Repeat("0", 50)))}),
		snap(strings.Repeat("1:", 150), wide(300)),
	} {
		s := taken(t, "a long text", m)
		for at := range s {
			turned(t, s, at, bytes())
		}
	}
	for range 100 {
		s := taken(t, "by chance", chanceMsg(r))
		for range 40 {
			turned(t, s, r.Intn(len(s)), bytes())
		}
		for at := range min(len(s), 20) {
			turned(t, s, at, bytes())
		}
	}
}

// Sums of few digits and of many.
func TestTurnedBytesByTheirSums(t *testing.T) {
	for _, sum := range []int{0, 1, 9, 10, 99999, 100000, 999999, 1000000, 1000002} {
		s := taken(t, "a sum", summing(t, sum))
		for at := range 30 {
			turned(t, s, at, bytes())
		}
		for at := len(s) - 12; at < len(s); at++ {
			turned(t, s, at, bytes())
		}
	}
}

// The longest frame: each of the two numbers, and places all over the text.
func TestTurnedBytesOfTheLongest(t *testing.T) {
	s := taken(t, "the longest", long(t, api.MaxFrame))
	ahead := strings.Index(s, "C")
	for at := range ahead + 5 {
		turned(t, s, at, "0123456789:,-C\x00\xff")
	}
	for _, at := range []int{100, 65535, 65536, api.MaxFrame / 2, api.MaxFrame - 65536, api.MaxFrame - 2, api.MaxFrame - 1} {
		turned(t, s, ahead+at, "019:,\x00\xff")
	}
}
