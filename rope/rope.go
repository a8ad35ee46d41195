// Package rope holds texts in chunks: see DOC.md, chapter 1.
package rope

import (
	"bytes"
	"strings"

	"minuet/api"
)

// Rope is a text in chunks of 1 to ChunkSize bytes, two neighbors together more than that.
// The zero Rope is the empty text.
type Rope struct {
	chunks [][]byte
	size   int
}

// New makes a rope of a text.
func New(s string) (*Rope, api.Errno) {
	if len(s) > api.MaxLen {
		return nil, api.ErrRopeForm
	}
	return &Rope{chunks: cut(s), size: len(s)}, api.OK
}

// Len tells how many bytes there are.
func (r *Rope) Len() int {
	if r == nil {
		return 0
	}
	return r.size
}

// Text tells all bytes.
func (r *Rope) Text() string {
	if r == nil {
		return ""
	}
	return text(r.chunks)
}

// Insert puts s at a place.
func (r *Rope) Insert(at int, s string) api.Errno {
	if r == nil {
		return api.ErrNil
	}
	if !r.has(at, 0) || len(s) > api.MaxLen-r.size {
		return api.ErrRopeForm
	}
	if s == "" {
		return api.OK
	}
	ahead, behind := split(r.chunks, at)
	r.chunks = join(ahead, cut(s), behind)
	r.size += len(s)
	return api.OK
}

// Delete takes k bytes away from a place on.
func (r *Rope) Delete(at int, k int) api.Errno {
	if r == nil {
		return api.ErrNil
	}
	if !r.has(at, k) {
		return api.ErrRopeForm
	}
	if k == 0 {
		return api.OK
	}
	ahead, rest := split(r.chunks, at)
	_, behind := split(rest, k)
	r.chunks = join(ahead, behind)
	r.size -= k
	return api.OK
}

// Slice tells k bytes from a place on.
func (r *Rope) Slice(at int, k int) (string, api.Errno) {
	if r == nil {
		return "", api.ErrNil
	}
	if !r.has(at, k) {
		return "", api.ErrRopeForm
	}
	_, rest := split(r.chunks, at)
	asked, _ := split(rest, k)
	return text(asked), api.OK
}

// Line tells a place's line and its column there, both from 0 on.
func (r *Rope) Line(at int) (int, int, api.Errno) {
	ahead, e := r.Slice(0, at)
	if e != api.OK {
		return 0, 0, e
	}
	start := strings.LastIndexByte(ahead, '\n') + 1
	return strings.Count(ahead, "\n"), at - start, api.OK
}

// Place tells the place of a column of a line, both from 0 on.
func (r *Rope) Place(line int, column int) (int, api.Errno) {
	if r == nil {
		return 0, api.ErrNil
	}
	if line < 0 || column < 0 {
		return 0, api.ErrRopeForm
	}
	rest := r.Text()
	for range line {
		_, behind, found := strings.Cut(rest, "\n")
		if !found {
			return 0, api.ErrRopeForm
		}
		rest = behind
	}
	// The byte 10 that ends a line has the line's last column.
	own, _, _ := strings.Cut(rest, "\n")
	if column > len(own) {
		return 0, api.ErrRopeForm
	}
	return r.size - len(rest) + column, api.OK
}

// Chunks tells the chunks' lengths, in their row.
func (r *Rope) Chunks() []int {
	if r == nil {
		return nil
	}
	var lengths []int
	for _, c := range r.chunks {
		lengths = append(lengths, len(c))
	}
	return lengths
}

// has: are there k bytes from a place on? Nothing is added up, so that no number wraps round.
func (r *Rope) has(at int, k int) bool {
	return at >= 0 && at <= r.size && k >= 0 && k <= r.size-at
}

// text: what chunks hold, as one text.
func text(chunks [][]byte) string {
	return string(bytes.Join(chunks, nil))
}

// cut: a text's chunks, each in memory of its own, so that a short rest never holds a long text.
func cut(s string) [][]byte {
	var chunks [][]byte
	for len(s) > 0 {
		k := min(len(s), api.ChunkSize)
		chunks = append(chunks, []byte(s[:k]))
		s = s[k:]
	}
	return chunks
}

// split: the chunks ahead of a place, and those behind it; a chunk that stands across it is parted.
// The list ahead is cut off with no spare room: what is appended to it must not go over the rope's own list.
func split(chunks [][]byte, at int) ([][]byte, [][]byte) {
	for i, c := range chunks {
		if at == 0 {
			return chunks[:i:i], chunks[i:]
		}
		if at < len(c) {
			ahead := append(chunks[:i:i], c[:at])
			behind := append([][]byte{c[at:]}, chunks[i+1:]...)
			return ahead, behind
		}
		at -= len(c)
	}
	return chunks, nil
}

// join: rows of chunks as one row, in a list of its own. A chunk that fits into the one ahead of it
// goes there; that one only grows, so it and its own neighbor ahead stay too long for one chunk.
func join(rows ...[][]byte) [][]byte {
	var all [][]byte
	for _, row := range rows {
		for _, c := range row {
			last := len(all) - 1
			if last < 0 || len(all[last])+len(c) > api.ChunkSize {
				all = append(all, c)
				continue
			}
			all[last] = grow(all[last], c)
		}
	}
	return all
}

// grow: two chunks as one, in new memory: parted chunks share theirs, so none is ever written into.
func grow(a []byte, b []byte) []byte {
	return append(a[:len(a):len(a)], b...)
}
