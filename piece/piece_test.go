package piece_test

import (
	"slices"
	"testing"

	"minuet/api"
	"minuet/piece"
)

func keep(n int) api.Comp { return api.Comp{Kind: api.CompKeep, N: n} }

func cut(n int) api.Comp { return api.Comp{Kind: api.CompCut, N: n} }

func put(s string) api.Comp { return api.Comp{Kind: api.CompPut, Text: s} }

func TestSize(t *testing.T) {
	for want, c := range []api.Comp{put(""), keep(1), put("ab"), cut(3)} {
		if got := piece.Size(c); got != want {
			t.Errorf("%v: %d, want %d", c, got, want)
		}
	}
}

func TestFollows(t *testing.T) {
	kinds := []int{api.CompKeep, api.CompPut, api.CompCut}
	for _, ahead := range kinds {
		for _, kind := range kinds {
			want := ahead != kind && !(ahead == api.CompCut && kind == api.CompPut)
			if piece.Follows(ahead, kind) != want {
				t.Errorf("%d, %d: %v", ahead, kind, !want)
			}
		}
	}
}

func TestAdd(t *testing.T) {
	for _, row := range []struct{ raw, want []api.Comp }{
		{nil, nil},
		{[]api.Comp{keep(0), put(""), cut(0)}, nil},
		{[]api.Comp{keep(1), keep(2), put("a"), put("b"), cut(3), cut(4)}, []api.Comp{keep(3), put("ab"), cut(7)}},
		{[]api.Comp{cut(1), put("a")}, []api.Comp{put("a"), cut(1)}},
		{[]api.Comp{put("a"), cut(1), put("b"), cut(2)}, []api.Comp{put("ab"), cut(3)}},
		{[]api.Comp{cut(1), keep(1), put("a")}, []api.Comp{cut(1), keep(1), put("a")}},
	} {
		var got []api.Comp
		for _, c := range row.raw {
			got = piece.Add(got, c)
		}
		if !slices.Equal(got, row.want) {
			t.Errorf("%v: %v, want %v", row.raw, got, row.want)
		}
	}
}

// A reader takes the same bytes, in whatever parts it takes them, and leaves the edit as it is.
func TestReaderTakesParts(t *testing.T) {
	cs := []api.Comp{keep(5), put("abcde"), cut(4), keep(1), put("f")}
	old := slices.Clone(cs)
	for most := 1; most < 7; most++ {
		r := piece.NewReader(cs)
		var got []api.Comp
		for r.More() {
			n := min(r.Left(), most)
			part := r.Take(n)
			if piece.Size(part) != n {
				t.Fatalf("%v is not of %d bytes", part, n)
			}
			got = piece.Add(got, part)
		}
		if !slices.Equal(got, cs) || !slices.Equal(cs, old) {
			t.Errorf("parts of %d: %v, %v, want %v", most, got, cs, old)
		}
	}
}

func TestReaderTellsWhatIsNext(t *testing.T) {
	r := piece.NewReader([]api.Comp{put("abc"), cut(2)})
	for _, row := range []struct {
		kind, left, n int
		want          api.Comp
	}{
		{api.CompPut, 3, 1, put("a")},
		{api.CompPut, 2, 2, put("bc")},
		{api.CompCut, 2, 1, cut(1)},
		{api.CompCut, 1, 1, cut(1)},
	} {
		for _, kind := range []int{api.CompKeep, api.CompPut, api.CompCut} {
			if r.At(kind) != (kind == row.kind) {
				t.Errorf("%v: at %d: %v", row.want, kind, r.At(kind))
			}
		}
		if left := r.Left(); left != row.left || !r.More() {
			t.Errorf("%v: %d left, want %d", row.want, left, row.left)
		}
		if got := r.Take(row.n); got != row.want {
			t.Errorf("%v, want %v", got, row.want)
		}
	}
	if r.More() || r.Left() != 0 || r.At(api.CompKeep) || r.At(api.CompPut) || r.At(api.CompCut) {
		t.Error("there is more behind the end")
	}
}
