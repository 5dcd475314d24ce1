package reparse

import (
	"slices"
	"strings"

	"marginalia/api"
	"marginalia/parse"
	"marginalia/rope"
	"marginalia/token"
	"marginalia/tree"
)

// part is an item or an NdError of a root.
type part struct {
	index  int // among the root's kids
	node   api.Node
	begin  int
	width  int
	leaves int  // how many there are
	first  int  // the number of its first solid token
	after  int  // the number of the first solid token after it
	closed bool // whether it ends with a `;`
}

// copy returns the part in new memory. A part of a tree is formed, so At has no error.
func (p part) copy() api.Node {
	n, _ := tree.At(p.node, nil)
	return n
}

// source is a string, its solid tokens, and the parts of its tree.
type source struct {
	text  string
	solid []api.Span
	parts []part
}

// newSource returns the source of a tree, which is one, so that Text and Leaves have no error.
func newSource(root api.Node) source {
	var s source
	s.text, _ = tree.Text(root)
	end := 0
	for i, kid := range root.Kids {
		p := part{index: i, node: kid, begin: end, first: len(s.solid)}
		leaves, _ := tree.Leaves(kid)
		for _, t := range leaves {
			begin := end
			end += len(t.Text)
			if !token.IsTrivia(t) {
				s.solid = append(s.solid, api.Span{From: begin, To: end})
			}
			p.closed = t.Text == ";"
		}
		p.width, p.leaves, p.after = end-p.begin, len(leaves), len(s.solid)
		if kid.Kind != api.NdToken {
			s.parts = append(s.parts, p)
		}
	}
	return s
}

// ground returns the span on which a part stands: as long as no edit touches it, its tokens stay, and nothing that is after them can make it end elsewhere.
func (s source) ground(p part) api.Span {
	known, end := p.begin, len(s.text)
	if p.node.Kind == api.NdError {
		known = s.endBefore(p)
	}
	if second := p.after + 1; second < len(s.solid) {
		end = s.solid[second].From
	}
	return api.Span{From: strings.LastIndexByte(s.text[:known], '\n') + 1, To: end}
}

// endBefore returns where the solid token before a part ends: at 0, if there is not one.
func (s source) endBefore(p part) int {
	if p.first == 0 {
		return 0
	}
	return s.solid[p.first-1].To
}

// kept returns the parts that are not fresh.
func (s source) kept(edits []api.Edit) []part {
	var kept []part
	goesOn := false // whether the part before is fresh, and may go on where an NdError begins
	for _, p := range s.parts {
		fresh := touch(edits, s.ground(p)) || goesOn && p.node.Kind == api.NdError
		goesOn = fresh && !p.closed
		if !fresh {
			kept = append(kept, p)
		}
	}
	return kept
}

// touch reports whether one of several edits touches a span.
func touch(edits []api.Edit, s api.Span) bool {
	return slices.ContainsFunc(edits, func(e api.Edit) bool { return e.From <= s.To && s.From <= e.To })
}

// keptParts returns the parts of a tree that are kept.
func keptParts(old api.Node, edits []api.Edit) ([]part, api.Errno) {
	if !parse.IsTree(old) {
		return nil, api.ErrForm
	}
	s := newSource(old)
	if e := rope.Check(s.text, edits); e != api.OK {
		return nil, e
	}
	return s.kept(edits), api.OK
}
