package view

import (
	"strings"
	"testing"

	"marginalia/api"
	"marginalia/parse"
	"marginalia/token"
	"marginalia/tree"
)

// P8.1: what is read off a tree knows the core of each of its nodes, as layer 5 finds it, and where the last solid token before it ends.
func TestPlaces(t *testing.T) {
	for _, text := range []string{
		"", " ", "x", " // r\nx; import a;\n", "def f // r\n", "def f() =  * b + c;", "def f() = match x {  ", "type  = | ; def f(x, (: T[",
		"import m;\ntype T[a] = A | B(m.T[a], (Int) -> a);\ndef f(x, y: Int) = if !x then (1 + 2 * 3) == g(x)(y, ) else match x { A(-1, _) => fn() => #, _ => 2 ",
	} {
		root, _, _ := parse.Parse(text)
		var holds func(p part, position []int)
		holds = func(p part, position []int) {
			core, e := tree.Core(root, position)
			span, _ := tree.Span(root, position)
			if p.core != core || p.before != endOfSolid(text[:span.From]) || e != api.OK {
				t.Errorf("%q at %v: %v after %d, not %v after %d", text, position, p.core, p.before, core, endOfSolid(text[:span.From]))
			}
			next := 0
			for i, kid := range p.Kids {
				if kid.Kind != api.NdToken || !token.IsTrivia(kid.Token) {
					holds(p.kids[next], append(position, i))
					next++
				}
			}
			if next != len(p.kids) {
				t.Errorf("%q at %v has %d kids, not %d", text, position, len(p.kids), next)
			}
		}
		holds(newPart(root), nil)
	}
}

// endOfSolid returns where the last solid token of a string ends.
func endOfSolid(text string) int {
	tokens, _ := token.Lex(text)
	for len(tokens) > 0 && token.IsTrivia(tokens[len(tokens)-1]) {
		text = strings.TrimSuffix(text, tokens[len(tokens)-1].Text)
		tokens = tokens[:len(tokens)-1]
	}
	return len(text)
}
