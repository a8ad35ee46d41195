package rope_test

import (
	"math"
	"slices"
	"strings"
	"sync"
	"sync/atomic"
	"testing"

	"minuet/api"
	"minuet/rope"
)

// made makes a rope of a text that may be one.
func made(t *testing.T, s string) *rope.Rope {
	t.Helper()
	r, e := rope.New(s)
	if r == nil || e != api.OK {
		t.Fatalf("New of %d bytes: %v, %d", len(s), r, e)
	}
	return r
}

// holds: has a rope this text, and chunks such as may be?
func holds(t *testing.T, r *rope.Rope, want string) {
	t.Helper()
	if r.Text() != want || r.Len() != len(want) {
		t.Fatalf("%d bytes %q, want %d bytes %q", r.Len(), r.Text(), len(want), want)
	}
	sum, last := 0, api.ChunkSize
	for _, n := range r.Chunks() {
		if n < 1 || n > api.ChunkSize || last+n <= api.ChunkSize {
			t.Fatalf("chunks %v of %q", r.Chunks(), want)
		}
		sum, last = sum+n, n
	}
	if sum != len(want) {
		t.Fatalf("chunks %v of %d bytes", r.Chunks(), len(want))
	}
}

// stays: does a call that answers want leave text and chunks as they are?
func stays(t *testing.T, r *rope.Rope, want api.Errno, call func() api.Errno) {
	t.Helper()
	text, chunks := r.Text(), r.Chunks()
	if e := call(); e != want {
		t.Errorf("error %d, want %d", e, want)
	}
	if !slices.Equal(r.Chunks(), chunks) {
		t.Errorf("chunks %v, want %v", r.Chunks(), chunks)
	}
	holds(t, r, text)
}

// letters makes a text in which neighbors differ, with an end of line now and then.
func letters(n int) string {
	b := make([]byte, n)
	for i := range b {
		b[i] = "abcdefghijk\nlmnopqrs\n\n"[i%22]
	}
	return string(b)
}

// row is a row of numbers, one and the same in each run.
type row uint64

func (r *row) next(n int) int {
	*r = *r*6364136223846793005 + 1442695040888963407
	return int(uint64(*r) >> 33 % uint64(n))
}

// wrongSpans are places and counts for which a text of size bytes has no bytes.
func wrongSpans(size int) [][2]int {
	return [][2]int{
		{-1, 0}, {-1, 1}, {size + 1, 0}, {size + 1, -1}, {0, size + 1}, {size, 1}, {0, -1}, {size, -1},
		{1, size}, {math.MinInt, 0}, {math.MaxInt, 0}, {math.MaxInt, math.MaxInt}, {0, math.MaxInt},
		{1, math.MaxInt}, {0, math.MinInt}, {-1, 2}, {math.MinInt, math.MinInt},
	}
}

// P1.1

func TestNewHoldsItsText(t *testing.T) {
	for _, s := range []string{"", "a", "\n", "two\nlines\n", "\x00\xff\xfe\r", strings.Repeat("é\n", 40)} {
		holds(t, made(t, s), s)
	}
	for n := range 5 * api.ChunkSize {
		holds(t, made(t, letters(n)), letters(n))
	}
}

func TestNewTakesMaxLenAndNoMore(t *testing.T) {
	for _, n := range []int{api.MaxLen - 1, api.MaxLen} {
		holds(t, made(t, letters(n)), letters(n))
	}
	for _, n := range []int{api.MaxLen + 1, 3 * api.MaxLen} {
		if r, e := rope.New(letters(n)); r != nil || e != api.ErrRopeForm {
			t.Errorf("%d bytes: %v, %d", n, r, e)
		}
	}
}

func TestEmptyTextHasNoChunks(t *testing.T) {
	emptied := made(t, letters(50))
	if e := emptied.Delete(0, 50); e != api.OK {
		t.Fatalf("Delete: %d", e)
	}
	for _, r := range []*rope.Rope{made(t, ""), emptied, {}} {
		holds(t, r, "")
		if len(r.Chunks()) != 0 {
			t.Errorf("chunks %v", r.Chunks())
		}
		if e := r.Insert(0, "x"); e != api.OK {
			t.Errorf("Insert: %d", e)
		}
		holds(t, r, "x")
	}
}

func TestChunksAnswersMemoryOfItsOwn(t *testing.T) {
	r := made(t, letters(40))
	first := r.Chunks()
	want := slices.Clone(first)
	clear(first)
	if !slices.Equal(r.Chunks(), want) {
		t.Errorf("chunks %v, want %v", r.Chunks(), want)
	}
}

// P1.2

func TestInsertAtEachPlace(t *testing.T) {
	for _, size := range []int{0, 1, 15, 16, 17, 33, 70} {
		for _, more := range []int{0, 1, 2, 15, 16, 17, 40} {
			s, put := letters(size), strings.Repeat("X", more)
			for at := range size + 1 {
				r := made(t, s)
				if e := r.Insert(at, put); e != api.OK {
					t.Fatalf("Insert(%d, %q): %d", at, put, e)
				}
				holds(t, r, s[:at]+put+s[at:])
			}
		}
	}
}

func TestInsertOfWrongPlaces(t *testing.T) {
	for _, size := range []int{0, 1, 16, 40} {
		r := made(t, letters(size))
		for _, at := range []int{-1, size + 1, math.MinInt, math.MaxInt} {
			for _, put := range []string{"", "x", letters(api.MaxLen)} {
				stays(t, r, api.ErrRopeForm, func() api.Errno { return r.Insert(at, put) })
			}
		}
	}
}

func TestInsertUpToMaxLen(t *testing.T) {
	for _, size := range []int{0, 1, 100, api.MaxLen - 1, api.MaxLen} {
		room := api.MaxLen - size
		for _, at := range []int{0, size / 2, size} {
			r := made(t, letters(size))
			stays(t, r, api.ErrRopeForm, func() api.Errno { return r.Insert(at, strings.Repeat("X", room+1)) })
			put := strings.Repeat("X", room)
			if e := r.Insert(at, put); e != api.OK {
				t.Fatalf("Insert(%d) of %d bytes: %d", at, room, e)
			}
			s := letters(size)
			holds(t, r, s[:at]+put+s[at:])
			stays(t, r, api.OK, func() api.Errno { return r.Insert(at, "") })
		}
	}
}

func TestDeleteOfEachSpan(t *testing.T) {
	for _, size := range []int{0, 1, 16, 17, 50} {
		s := letters(size)
		for at := range size + 1 {
			for k := range size - at + 1 {
				r := made(t, s)
				if e := r.Delete(at, k); e != api.OK {
					t.Fatalf("Delete(%d, %d): %d", at, k, e)
				}
				holds(t, r, s[:at]+s[at+k:])
			}
		}
	}
}

func TestDeleteOfWrongSpans(t *testing.T) {
	for _, size := range []int{0, 1, 16, 40} {
		r := made(t, letters(size))
		for _, c := range wrongSpans(size) {
			stays(t, r, api.ErrRopeForm, func() api.Errno { return r.Delete(c[0], c[1]) })
		}
	}
}

func TestSliceOfEachSpan(t *testing.T) {
	for _, size := range []int{0, 1, 16, 17, 50} {
		s := letters(size)
		r := made(t, s)
		for at := range size + 1 {
			for k := range size - at + 1 {
				got := ""
				stays(t, r, api.OK, func() (e api.Errno) { got, e = r.Slice(at, k); return e })
				if got != s[at:at+k] {
					t.Fatalf("Slice(%d, %d): %q, want %q", at, k, got, s[at:at+k])
				}
			}
		}
	}
}

func TestSliceOfWrongSpans(t *testing.T) {
	for _, size := range []int{0, 1, 16, 40} {
		r := made(t, letters(size))
		for _, c := range wrongSpans(size) {
			got := ""
			stays(t, r, api.ErrRopeForm, func() (e api.Errno) { got, e = r.Slice(c[0], c[1]); return e })
			if got != "" {
				t.Errorf("Slice(%d, %d): %q beside an error", c[0], c[1], got)
			}
		}
	}
}

// TestManyEdits holds a rope against a plain text.
func TestManyEdits(t *testing.T) {
	by := row(7)
	for range 40 {
		want := letters(by.next(200))
		r := made(t, want)
		for range 200 {
			at := by.next(len(want) + 1)
			if k := by.next(len(want) - at + 1); by.next(2) == 0 {
				k = min(k, by.next(40))
				want = want[:at] + want[at+k:]
				if e := r.Delete(at, k); e != api.OK {
					t.Fatalf("Delete(%d, %d): %d", at, k, e)
				}
			} else {
				put := letters(by.next(36))
				want = want[:at] + put + want[at:]
				if e := r.Insert(at, put); e != api.OK {
					t.Fatalf("Insert(%d, %q): %d", at, put, e)
				}
			}
			holds(t, r, want)
		}
	}
}

func TestNothingPutOrCutLeavesChunks(t *testing.T) {
	r := made(t, letters(16))
	if e := r.Insert(8, "XY"); e != api.OK {
		t.Fatalf("Insert: %d", e)
	}
	for at := range r.Len() + 1 {
		stays(t, r, api.OK, func() api.Errno { return r.Insert(at, "") })
		stays(t, r, api.OK, func() api.Errno { return r.Delete(at, 0) })
	}
}

func TestByteAfterByte(t *testing.T) {
	want := letters(api.MaxLen)
	front, back := made(t, ""), made(t, "")
	for i := range want {
		e, f := back.Insert(i, want[i:i+1]), front.Insert(0, want[len(want)-1-i:len(want)-i])
		if e != api.OK || f != api.OK {
			t.Fatalf("byte %d: %d, %d", i, e, f)
		}
	}
	holds(t, front, want)
	holds(t, back, want)
	for i := range want {
		e, f := back.Delete(len(want)-1-i, 1), front.Delete(0, 1)
		if e != api.OK || f != api.OK {
			t.Fatalf("byte %d: %d, %d", i, e, f)
		}
	}
	holds(t, front, "")
	holds(t, back, "")
}

// P1.3

func TestLinesAndPlaces(t *testing.T) {
	long := strings.Repeat("x", 40)
	cases := []struct {
		s                string
		at, line, column int
	}{
		{"", 0, 0, 0},
		{"a", 0, 0, 0},
		{"a", 1, 0, 1},
		{"\n", 0, 0, 0},
		{"\n", 1, 1, 0},
		{"\n\n", 1, 1, 0},
		{"\n\n", 2, 2, 0},
		{"ab\ncd", 2, 0, 2},
		{"ab\ncd", 3, 1, 0},
		{"ab\ncd", 5, 1, 2},
		{"ab\r\ncd", 3, 0, 3},
		{"ab\r\ncd", 4, 1, 0},
		{long + "\n" + long, 40, 0, 40},
		{long + "\n" + long, 41, 1, 0},
		{long + "\n" + long, 81, 1, 40},
		{long[:15] + "\n" + long[:15] + "\n", 16, 1, 0},
		{long[:15] + "\n" + long[:15] + "\n", 31, 1, 15},
		{long[:15] + "\n" + long[:15] + "\n", 32, 2, 0},
	}
	for _, c := range cases {
		r := made(t, c.s)
		if line, column, e := r.Line(c.at); line != c.line || column != c.column || e != api.OK {
			t.Errorf("Line(%d) of %q: %d, %d, %d", c.at, c.s, line, column, e)
		}
		if at, e := r.Place(c.line, c.column); at != c.at || e != api.OK {
			t.Errorf("Place(%d, %d) of %q: %d, %d", c.line, c.column, c.s, at, e)
		}
		holds(t, r, c.s)
	}
}

func TestPlaceIsLineBack(t *testing.T) {
	for _, size := range []int{1, 16, 100, api.MaxLen} {
		s := letters(size)
		r := made(t, s)
		for at := range size + 1 {
			line := strings.Count(s[:at], "\n")
			column := at - 1 - strings.LastIndex(s[:at], "\n")
			a, b, e := r.Line(at)
			back, f := r.Place(line, column)
			if a != line || b != column || e != api.OK || back != at || f != api.OK {
				t.Fatalf("%d: line %d, column %d, error %d; back %d, error %d", at, a, b, e, back, f)
			}
		}
	}
}

func TestLineOfWrongPlaces(t *testing.T) {
	for _, size := range []int{0, 1, 40} {
		r := made(t, letters(size))
		for _, at := range []int{-1, size + 1, math.MinInt, math.MaxInt} {
			if line, column, e := r.Line(at); line != 0 || column != 0 || e != api.ErrRopeForm {
				t.Errorf("Line(%d): %d, %d, %d", at, line, column, e)
			}
		}
		holds(t, r, letters(size))
	}
}

func TestPlaceOfNoPlace(t *testing.T) {
	cases := []struct {
		s            string
		line, column int
	}{
		{"", 0, 1}, {"", 1, 0}, {"", -1, 0}, {"", 0, -1},
		{"ab\ncd", 0, 3}, {"ab\ncd", 1, 3}, {"ab\ncd", 2, 0}, {"ab\ncd", -1, 0}, {"ab\ncd", 1, -1},
		{"ab\n", 1, 1}, {"ab\n", 2, 0}, {"ab\n", 0, 3},
		{"ab", math.MaxInt, 0}, {"ab", 0, math.MaxInt}, {"a\nb", 1, math.MaxInt},
		{"ab", math.MinInt, 0}, {"ab", 0, math.MinInt}, {"ab", math.MaxInt, math.MaxInt},
	}
	for _, c := range cases {
		r := made(t, c.s)
		if at, e := r.Place(c.line, c.column); at != 0 || e != api.ErrRopeForm {
			t.Errorf("Place(%d, %d) of %q: %d, %d", c.line, c.column, c.s, at, e)
		}
		holds(t, r, c.s)
	}
}

// The rules

func TestNilRope(t *testing.T) {
	var r *rope.Rope
	if r.Len() != 0 || r.Text() != "" || len(r.Chunks()) != 0 {
		t.Errorf("a nil rope has %d bytes, %q, %v", r.Len(), r.Text(), r.Chunks())
	}
	// ErrNil goes ahead of ErrRopeForm, so wrong places are asked too.
	for _, n := range []int{0, -1, 1, math.MaxInt, math.MinInt} {
		e, f := r.Insert(n, letters(api.MaxLen+1)), r.Delete(n, n)
		s, g := r.Slice(n, n)
		line, column, h := r.Line(n)
		at, i := r.Place(n, n)
		for _, got := range []api.Errno{e, f, g, h, i} {
			if got != api.ErrNil {
				t.Errorf("%d: error %d, want %d", n, got, api.ErrNil)
			}
		}
		if s != "" || line != 0 || column != 0 || at != 0 {
			t.Errorf("%d: %q, %d, %d, %d beside an error", n, s, line, column, at)
		}
	}
}

func TestNewFromSeveralGoroutines(t *testing.T) {
	const workers = 8
	var right atomic.Int64
	var all sync.WaitGroup
	s := letters(api.MaxLen - 1)
	for i := range workers {
		all.Go(func() {
			r, e := rope.New(s)
			if e == api.OK && r.Insert(i, "X") == api.OK && r.Text() == s[:i]+"X"+s[i:] {
				right.Add(1)
			}
		})
	}
	all.Wait()
	if right.Load() != workers {
		t.Errorf("%d of %d ropes are right", right.Load(), workers)
	}
}
