package piece

import (
	"minuet/api"
)

// Reader goes through an edit in normal form from left to right, by pieces or by parts of them.
type Reader struct {
	rest []api.Comp
	// taken is how much of the first of rest is taken already: the edit itself must stay as it is.
	taken int
}

// NewReader makes a reader that stands ahead of an edit.
func NewReader(cs []api.Comp) *Reader {
	return &Reader{rest: cs}
}

// More: is anything left?
func (r *Reader) More() bool {
	return len(r.rest) > 0
}

// At: is a piece of this kind the next one?
func (r *Reader) At(kind int) bool {
	return r.More() && r.rest[0].Kind == kind
}

// Left tells how many bytes are left of the next piece: none, if nothing is.
func (r *Reader) Left() int {
	if !r.More() {
		return 0
	}
	return Size(r.rest[0]) - r.taken
}

// Take takes n bytes of the next piece, n from 1 to Left. The part's text lies in the edit's memory.
func (r *Reader) Take(n int) api.Comp {
	c := r.rest[0]
	part := api.Comp{Kind: c.Kind, N: n}
	if c.Kind == api.CompPut {
		part = api.Comp{Kind: c.Kind, Text: c.Text[r.taken : r.taken+n]}
	}
	r.taken += n
	if r.taken == Size(c) {
		r.rest, r.taken = r.rest[1:], 0
	}
	return part
}
