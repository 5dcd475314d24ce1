package view

import (
	"marginalia/api"
	"marginalia/token"
)

// part is a leaf or a node of a tree, with where it is.
type part struct {
	api.Node
	core   api.Span
	before int    // where the last solid leaf before it ends, or 0
	kids   []part // those that are no trivia
}

// newPart returns the part that a root is.
func newPart(root api.Node) part {
	var p placer
	return p.place(root)
}

// placer finds out where parts are: it goes through all leaves once, from the first to the last.
type placer struct {
	begin int // where the next leaf begins
	end   int // where the last solid leaf ends
}

func (at *placer) place(n api.Node) part {
	p := part{Node: n, before: at.end, core: api.Span{From: at.begin, To: at.begin}}
	at.begin += len(n.Token.Text)
	if n.Kind == api.NdToken && !token.IsTrivia(n.Token) {
		at.end = at.begin
		p.core.To = at.end
	}
	for _, kid := range n.Kids {
		k := at.place(kid)
		if !token.IsTrivia(kid.Token) {
			p.add(k)
		}
	}
	return p
}

// add makes a part the last kid of another one, whose core is empty until a solid leaf is in it.
func (p *part) add(kid part) {
	p.kids = append(p.kids, kid)
	if kid.core.From == kid.core.To {
		return
	}
	if p.core.From == p.core.To {
		p.core.From = kid.core.From
	}
	p.core.To = kid.core.To
}

// is reports whether a part is the leaf of a sign or a word.
func (p part) is(text string) bool { return p.Token.Text == text }

// kidsOf returns the kids of a kind.
func (p part) kidsOf(kind int) []part {
	var some []part
	for _, kid := range p.kids {
		if kid.Kind == kind {
			some = append(some, kid)
		}
	}
	return some
}

// between returns what stands between two brackets, which are there or missing: each part that has commas, or brackets, on both sides.
func between(all []part) []part {
	var some []part
	for i := 1; i+1 < len(all); i += 2 {
		some = append(some, all[i])
	}
	return some
}

// each returns what parts are read as.
func each[T any](parts []part, read func(part) T) []T {
	var all []T
	for _, p := range parts {
		all = append(all, read(p))
	}
	return all
}
