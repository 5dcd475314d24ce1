package tree

import (
	"slices"

	"marginalia/api"
	"marginalia/token"
)

// At returns what is at a position.
func At(n api.Node, position []int) (api.Node, api.Errno) {
	part, _, e := goTo(n, position)
	if e != api.OK {
		return api.Node{}, e
	}
	return clone(part), api.OK
}

// Span returns the span of what is at a position.
func Span(n api.Node, position []int) (api.Span, api.Errno) {
	part, begin, e := goTo(n, position)
	if e != api.OK {
		return api.Span{}, e
	}
	return api.Span{From: begin, To: begin + width(part)}, api.OK
}

// Core returns the span from the first solid leaf to the last one of what is at a position.
func Core(n api.Node, position []int) (api.Span, api.Errno) {
	part, begin, e := goTo(n, position)
	if e != api.OK {
		return api.Span{}, e
	}
	core := api.Span{From: begin, To: begin}
	at := begin
	for t := range leaves(part) {
		end := at + len(t.Text)
		if !token.IsTrivia(t) {
			// No leaf is empty: the core is, until the first solid one is met.
			if core.From == core.To {
				core.From = at
			}
			core.To = end
		}
		at = end
	}
	return core, api.OK
}

// goTo returns what is at a position, and the offset where it begins.
func goTo(n api.Node, position []int) (part api.Node, begin int, e api.Errno) {
	if !IsFormed(n) {
		return api.Node{}, 0, api.ErrForm
	}
	part = n
	for _, index := range position {
		if index < 0 || index >= len(part.Kids) {
			return api.Node{}, 0, api.ErrArg
		}
		for _, kid := range part.Kids[:index] {
			begin += width(kid)
		}
		part = part.Kids[index]
	}
	return part, begin, api.OK
}

// Find returns the position of the leaf in which the byte at an offset is, or of the last leaf at the end of the string.
func Find(n api.Node, offset int) ([]int, api.Errno) {
	if !IsFormed(n) {
		return nil, api.ErrForm
	}
	size := width(n)
	if offset < 0 || offset > size {
		return nil, api.ErrArg
	}
	end := 0
	for position, part := range walk(n) {
		end += len(part.Token.Text)
		if part.Kind == api.NdToken && (offset < end || end == size) {
			return slices.Clone(position), api.OK
		}
	}
	return nil, api.ErrNone
}

// Cover returns the position of the deepest leaf or node whose span holds a span.
func Cover(n api.Node, s api.Span) ([]int, api.Errno) {
	if !IsFormed(n) {
		return nil, api.ErrForm
	}
	spans := allSpans(n)
	if s.From < 0 || s.From > s.To || s.To > spans[0].To {
		return nil, api.ErrArg
	}
	// What is deeper, and what is beside and later, comes later in a walk: of those that hold the span it is the last one.
	var found []int
	next := 0
	for position := range walk(n) {
		if own := spans[next]; own.From <= s.From && s.To <= own.To {
			found = append(found[:0], position...)
		}
		next++
	}
	return found, api.OK
}

// allSpans returns the spans of all leaves and nodes, in the order of a walk.
func allSpans(n api.Node) []api.Span {
	var spans []api.Span
	end := 0
	var add func(part api.Node)
	add = func(part api.Node) {
		own := len(spans)
		spans = append(spans, api.Span{From: end})
		end += len(part.Token.Text)
		for _, kid := range part.Kids {
			add(kid)
		}
		spans[own].To = end
	}
	add(n)
	return spans
}
