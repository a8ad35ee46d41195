package frame_test

import (
	"fmt"
	"math"
	"runtime"
	"slices"
	"strings"
	"testing"

	"minuet/api"
	"minuet/frame"
	"minuet/pack"
)

// P18.1 at the longest texts that may be, and one byte more.

// long is changes whose text has n bytes: steps with as many children as may be, and greater ids where bytes lack.
func long(t *testing.T, n int) api.Msg {
	t.Helper()
	const size = len("2,0,0,0,0,2048,") + 2*api.MaxNodes
	count := (n - 100) / size
	m := changes(1, 2, api.Entry{Seq: 1, Edit: edit(put("x:"))}, api.Entry{Client: 2, Seq: 3})
	for range count {
		m.Entries[1].Delta = append(m.Entries[1].Delta, kids(0, make([]int, api.MaxNodes)...))
	}
	lacks := n - len(fmt.Sprintf("C1,2,2,0,1,1,p2:x:0,2,3,0,%d,", count)) - count*size
	for _, s := range m.Entries[1].Delta {
		for k := range s.Kids {
			more := min(lacks, 7)
			s.Kids[k] = []int{0, int(math.Pow10(more))}[min(more, 1)]
			lacks -= more
		}
	}
	return m
}

// plainText is the text of such changes, however long it is.
func plainText(m api.Msg) string {
	var b strings.Builder
	fmt.Fprintf(&b, "C1,2,2,0,1,1,p2:x:0,2,3,0,%d,", len(m.Entries[1].Delta))
	for _, s := range m.Entries[1].Delta {
		fmt.Fprintf(&b, "2,0,0,0,0,%d,", len(s.Kids))
		for _, k := range s.Kids {
			fmt.Fprint(&b, k, ",")
		}
	}
	return b.String()
}

func TestUpToMaxFrame(t *testing.T) {
	for _, n := range []int{99999, 100000, 999999 - 1, 999999, api.MaxFrame} {
		m := long(t, n)
		s := taken(t, "not too long", m)
		if text := plainText(m); len(text) != n || s != wrapped(text) {
			t.Errorf("P18.1: %s, want %s", brief(s), brief(wrapped(text)))
		}
	}
	for _, n := range []int{api.MaxFrame + 1, api.MaxFrame + 2, api.MaxFrame + 64, 2 * api.MaxFrame} {
		m := long(t, n)
		text := plainText(m)
		if len(text) != n || !pack.May(m) {
			t.Fatalf("the test is wrong: %d bytes", len(text))
		}
		refused(t, "too long", m)
		none(t, "too long", wrapped(text))
	}
}

// What a long frame was turned to: less, more, another one's numbers.
func TestLongFramesTurned(t *testing.T) {
	m := long(t, api.MaxFrame)
	s := taken(t, "the longest", m)
	other := taken(t, "one less", long(t, api.MaxFrame-1))
	none(t, "less", s[:len(s)-1])
	none(t, "more", s+",")
	none(t, "more", s+"0")
	none(t, "two", s+other)
	none(t, "two", s+s)
	none(t, "two", "9:2096:P0,0,0,0,"+s)
	none(t, "two", s+"9:2096:P0,0,0,0,")
	none(t, "a half", s[:len(s)/2])
	none(t, "a half", s[len(s)/2:])
	none(t, "the text alone", plainText(m))
	none(t, "a length", "0"+s)
	none(t, "a length", "999999"+strings.TrimPrefix(s, "1000000"))
	none(t, "a length", "1000001"+strings.TrimPrefix(s, "1000000"))
}

// The most that may be at all has no frame, and that ends soon.
func TestTheMostThatMayBe(t *testing.T) {
	most := make([]int, api.MaxNodes)
	for i := range most {
		most[i] = api.MaxIds - 1
	}
	e := api.Entry{Seq: 1, Delta: slices.Repeat(steps(kids(api.MaxIds-1, most...)), 4*api.MaxNodes)}
	m := changes(2, 4096, e, e, e)
	if !pack.May(m) {
		t.Fatal("the test is wrong")
	}
	if used := memory(func() { refused(t, "the most", m) }); used > 20*api.MaxFrame {
		t.Errorf("P18.1: %d bytes were taken", used)
	}
}

// memory tells how many bytes a call takes.
func memory(call func()) uint64 {
	var ahead, behind runtime.MemStats
	runtime.ReadMemStats(&ahead)
	call()
	runtime.ReadMemStats(&behind)
	return behind.TotalAlloc - ahead.TotalAlloc
}

// Texts that are no frames take hardly any memory, however long they are.
func TestLongTextsThatAreNoFrames(t *testing.T) {
	for _, n := range []int{api.MaxFrame, api.MaxFrame + 64, 5 * api.MaxFrame, 50 * api.MaxFrame} {
		for _, c := range []string{"0", "9", ":", "P", ",", "0:", "9:9:", "P0,0,0,0,", "9:2096:P0,0,0,0,"} {
			s := strings.Repeat(c, n/len(c))
			for _, ahead := range []string{"", "9:2096:", "9:", ":", "0:0:", "1000000:0:"} {
				s := ahead + s
				if m, e := frame.Get(s); !nothing(m) || e != api.ErrFrameForm {
					t.Fatalf("P18.1: %s: %s, %d", brief(s[:40]), brief(m), e)
				}
				used := memory(func() { frame.Get(s) })
				if used > 10000 {
					t.Errorf("P18.1: %s, %d bytes: %d were taken", s[:20], len(s), used)
				}
			}
		}
	}
}
