// Package rope is layer 1: strings that are edited, and what can be done with edits.
// See shared/doc/01-rope.md.
package rope

import (
	"marginalia/api"
)

// Rope is a string that is never changed: an edit makes another rope, which shares the pieces that the edit leaves.
type Rope struct {
	made   bool   // tells the rope of an empty string from a zero Rope
	root   *piece // nil if the string is empty
	before *Rope  // what Edit made this rope of
}

// New returns a rope of a string.
func New(text string) (*Rope, api.Errno) {
	if len(text) > api.MaxText {
		return nil, api.ErrLimit
	}
	return &Rope{made: true, root: leaf(text)}, api.OK
}

// Text returns the string.
func (r *Rope) Text() string {
	p := r.pieces()
	return p.slice(api.Span{From: 0, To: p.sums().size})
}

// Len returns the number of bytes.
func (r *Rope) Len() int { return r.pieces().sums().size }

// Slice returns the bytes of a span.
func (r *Rope) Slice(s api.Span) (string, api.Errno) {
	if !r.isMade() {
		return "", api.ErrNil
	}
	if !isSpan(s.From, s.To, r.Len()) {
		return "", api.ErrArg
	}
	return r.root.slice(s), api.OK
}

// Edit returns the rope after edits.
func (r *Rope) Edit(edits []api.Edit) (*Rope, api.Errno) {
	if !r.isMade() {
		return nil, api.ErrNil
	}
	if err := check(r.Len(), edits); err != api.OK {
		return nil, err
	}
	var done, kept *piece
	rest, at := r.root, 0
	for _, e := range edits {
		kept, rest = rest.split(e.From - at)
		_, rest = rest.split(e.To - e.From)
		at = e.To
		done = join(join(done, kept), leaf(e.New))
	}
	return &Rope{made: true, root: join(done, rest), before: r}, api.OK
}

// Undo returns the rope that Edit made this one of.
func (r *Rope) Undo() (*Rope, api.Errno) {
	if !r.isMade() {
		return nil, api.ErrNil
	}
	if r.before == nil {
		return nil, api.ErrNone
	}
	return r.before, api.OK
}

// Lines returns how many lines there are.
func (r *Rope) Lines() int {
	if !r.isMade() {
		return 0
	}
	return r.root.sums().feeds + 1
}

// Line returns the span of line n, without its line feed.
func (r *Rope) Line(n int) (api.Span, api.Errno) {
	if !r.isMade() {
		return api.Span{}, api.ErrNil
	}
	if n < 0 || n >= r.Lines() {
		return api.Span{}, api.ErrArg
	}
	line := api.Span{From: 0, To: r.Len()}
	if n > 0 {
		line.From = r.root.feed(n-1) + 1
	}
	if n < r.Lines()-1 {
		line.To = r.root.feed(n)
	}
	return line, api.OK
}

// Pieces returns of how many pieces the rope is made.
func (r *Rope) Pieces() int { return r.pieces().sums().leaves }

func (r *Rope) isMade() bool { return r != nil && r.made }

func (r *Rope) pieces() *piece {
	if r == nil {
		return nil
	}
	return r.root
}
