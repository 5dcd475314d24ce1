package view_test

import (
	"math/rand"
	"slices"
	"strings"
	"testing"

	"marginalia/api"
	"marginalia/parse"
	"marginalia/token"
	"marginalia/view"
)

// P8.2: what an item says has its spans from the item's beginning on, and is alone in its module.
func TestItem(t *testing.T) {
	for _, c := range [][2]string{
		{" import a; ", "import a@7"},
		{"\n\nimport // r\n ;", "import ?@6"},
		{"x; type T[a] = A(a) | ; // r", "type T@5[a@7] | A@12(var(a@14)@14-15) | ?@18()@0-20"},
		{"import a;  def f(x) = x + 1;", "def f@4(x@6) = binary(+@13 name(x@11)@11-12 int(1)@15-16)@11-16@0-17"},
		{" def f( = 1 import a;", "def f@4() = int(1)@9-10@0-10"},
		{" def = 1", "def ?@3() = int(1)@6-7@0-7"},
		{" def f // r\n import a;", "def f@4() = missing@12-12@0-5"},
		{" def f // r\n", "def f@4() = missing@11-11@0-5"},
	} {
		n := parsed(t, c[0])
		at := slices.IndexFunc(n.Kids, func(kid api.Node) bool {
			return kid.Kind == api.NdImport && !strings.Contains(c[1], "def") || kid.Kind == api.NdTypeDef || kid.Kind == api.NdDef
		})
		if m, e := view.Item(n.Kids[at]); show(m) != c[1] || e != api.OK {
			t.Errorf("the item of %q says %s, %d, not %s", c[0], show(m), e, c[1])
		}
	}
}

// P8.6: what a tree says is what its items say, moved to where they begin, one after the other.
func TestParts(t *testing.T) {
	items := 0
	holdsFor(func(text string) {
		n := parsed(t, text)
		cores, _ := parse.Items(n)
		items += len(cores)
		var joined api.Module
		for _, kid := range n.Kids {
			m, e := view.Item(kid)
			isItem := kid.Kind == api.NdImport || kid.Kind == api.NdTypeDef || kid.Kind == api.NdDef
			if (e == api.OK) != isItem {
				t.Fatalf("Item of a part of %s: %d", short(text), e)
			}
			if !isItem {
				continue
			}
			m = view.Move(m, cores[0].From)
			cores = cores[1:]
			joined.Imports = append(joined.Imports, m.Imports...)
			joined.Types = append(joined.Types, m.Types...)
			joined.Defs = append(joined.Defs, m.Defs...)
		}
		if whole := said(t, text); !view.Same(whole, joined) || !isSame(whole, joined) {
			t.Errorf("%s says\n%s, and its items\n%s", short(text), show(whole), show(joined))
		}
	})
	if items < 3000 {
		t.Errorf("there are only %d items", items)
	}
}

// holdsFor calls visit with sources, right and broken ones.
func holdsFor(visit func(text string)) {
	someSources(1000, func(_ *rand.Rand, text string, _ api.Module, _ []api.Note) { visit(text) })
	someBroken(1500, func(_ *rand.Rand, text string) { visit(text) })
}

// spacedAnew writes the solid tokens of a string with other trivia between them.
func spacedAnew(r *rand.Rand, text string) string {
	var made strings.Builder
	tokens, _ := token.Lex(text)
	for _, i := range token.Solid(tokens) {
		made.WriteString(someTrivia[r.Intn(len(someTrivia))])
		made.WriteString(tokens[i].Text)
		if tokens[i].Kind == api.TkBad {
			made.WriteString("\n")
		}
	}
	if r.Intn(2) == 0 {
		made.WriteString(someTrivia[r.Intn(len(someTrivia))])
	}
	return made.String()
}

// P8.7: trees with the same solid tokens say the same, Bare.
func TestTrivia(t *testing.T) {
	r := rand.New(rand.NewSource(87))
	differ := 0
	holdsFor(func(text string) {
		other := spacedAnew(r, text)
		if !sameSolid(text, other) {
			t.Fatalf("%s has not the tokens of %s", short(other), short(text))
		}
		a, b := said(t, text), said(t, other)
		if !view.Same(view.Bare(a), view.Bare(b)) || show(view.Bare(a)) != show(view.Bare(b)) {
			t.Errorf("%s says\n%s, and %s\n%s", short(text), show(view.Bare(a)), short(other), show(view.Bare(b)))
		}
		if !view.Same(a, b) {
			differ++
		}
	})
	if differ < 2000 {
		t.Errorf("only %d differ with their places", differ)
	}
}

func sameSolid(a, b string) bool {
	solid := func(text string) []api.Token {
		var some []api.Token
		tokens, _ := token.Lex(text)
		for _, i := range token.Solid(tokens) {
			some = append(some, tokens[i])
		}
		return some
	}
	return slices.Equal(solid(a), solid(b))
}

// P8.8: names of different places are different names: no two have a place in common, each has its string there, and each name in an item, but in what is no item, is one of them.
func TestReading(t *testing.T) {
	count := 0
	holdsFor(func(text string) {
		n := parsed(t, text)
		names := view.Names(said(t, text))
		count += len(names)
		end := -1
		for _, name := range names {
			if name.Span.From < end || text[name.Span.From:name.Span.To] != name.Text {
				t.Errorf("names of %s: %v, after %d", short(text), name, end)
			}
			end = name.Span.To
		}
		var want []api.Name
		for _, name := range namesIn(thingOf(n, 0), nil) {
			if !isAny(n, name) {
				want = append(want, name)
			}
		}
		if !slices.Equal(names, want) {
			t.Errorf("names of %s: %v, not %v", short(text), names, want)
		}
	})
	if count < 20000 {
		t.Errorf("there are only %d names", count)
	}
}

// namesIn adds all leaves that are names, but those of what is no item.
func namesIn(t thing, names []api.Name) []api.Name {
	if t.token.Kind == api.TkName {
		return append(names, api.Name{Text: t.token.Text, Span: api.Span{From: t.from, To: t.to}})
	}
	for _, kid := range t.kids {
		if t.kind != api.NdError {
			names = namesIn(kid, names)
		}
	}
	return names
}

// isAny reports whether a name is a pattern `_`.
func isAny(n api.Node, name api.Name) bool {
	if name.Text != "_" {
		return false
	}
	found := false
	var in func(t thing)
	in = func(t thing) {
		if t.kind == api.NdPattern && len(t.kids) == 1 && t.from == name.Span.From && t.to == name.Span.To {
			found = true
		}
		for _, kid := range t.kids {
			in(kid)
		}
	}
	in(thingOf(n, 0))
	return found
}
