package tree_test

import (
	"math/rand"
	"slices"
	"strings"
	"testing"

	"marginalia/api"
	"marginalia/tree"
)

// broken are Nodes that are not formed.
func broken() map[string]api.Node {
	long := strings.Repeat("a", api.MaxText+1)
	return map[string]api.Node{
		"the zero Node":                       {},
		"kind 0 with kids":                    node(0, name("a")),
		"kind -1":                             node(-1),
		"kind 29":                             node(29),
		"a leaf without a token":              node(api.NdToken),
		"a leaf with kids":                    {Kind: api.NdToken, Token: api.Token{Kind: api.TkName, Text: "a"}, Kids: list(name("a"))},
		"a leaf with kids and no token":       node(api.NdToken, name("a")),
		"a leaf with an empty token":          name(""),
		"a leaf with two tokens":              name("a b"),
		"a leaf with a word as a name":        name("in"),
		"a leaf with a name as a word":        leaf(api.TkWord, "a"),
		"a leaf with a token of kind 0":       leaf(0, "a"),
		"a leaf with a token of kind 9":       leaf(9, "a"),
		"a leaf with a token too long":        name(long),
		"a node with a token":                 {Kind: api.NdFile, Token: api.Token{Kind: api.TkName, Text: "a"}},
		"a node with a token's kind":          {Kind: api.NdName, Token: api.Token{Kind: api.TkName}, Kids: list(name("a"))},
		"a node with a token's text":          {Kind: api.NdName, Token: api.Token{Text: "a"}},
		"NdMissing with a kid":                node(api.NdMissing, name("a")),
		"NdMissing with an empty kid":         node(api.NdMissing, missing),
		"NdMissing with a token":              {Kind: api.NdMissing, Token: api.Token{Kind: api.TkName, Text: "a"}},
		"a kid that is the zero Node":         file(name("a"), api.Node{}),
		"a wrong leaf at the end":             file(name("a"), paren(name("b"), name(""))),
		"a wrong node that is deep":           chain(900, api.Node{Kind: 29}),
		"a leaf too deep":                     chain(1001, name("a")),
		"an empty node too deep":              chain(1001, paren()),
		"one that is missing and too deep":    chain(1001, missing),
		"a last leaf too deep":                file(name("a"), chain(1000, name("b"))),
		"one leaf too many":                   file(leavesOf(api.MaxTokens + 1)...),
		"one leaf too many, not side by side": file(paren(leavesOf(api.MaxTokens)...), blank(" ")),
		"one that is far too deep":            chain(1<<16, name("a")),
	}
}

// P5.1: what is formed.
func TestIsFormed(t *testing.T) {
	for what, n := range map[string]api.Node{
		"the example":                         example(),
		"a leaf":                              name("a"),
		"a blank":                             blank("\n"),
		"a remark":                            remark("// a"),
		"a bad token":                         leaf(api.TkBad, `"a`),
		"an empty file":                       file(),
		"an empty file with an empty list":    {Kind: api.NdFile, Kids: []api.Node{}},
		"a leaf with an empty list":           {Kind: api.NdToken, Token: api.Token{Kind: api.TkName, Text: "a"}, Kids: []api.Node{}},
		"NdMissing":                           missing,
		"NdMissing with an empty list":        {Kind: api.NdMissing, Kids: []api.Node{}},
		"a file in another node":              paren(file(file())),
		"leaves that would be one token":      file(name("a"), name("b"), blank(" "), blank(" ")),
		"a leaf after a remark":               file(remark("//"), name("a")),
		"a leaf as long as it may be":         name(strings.Repeat("a", api.MaxText)),
		"leaves that are longer together":     file(name(strings.Repeat("a", api.MaxText)), name("b")),
		"a leaf as deep as it may be":         chain(1000, name("a")),
		"an empty node as deep as it may be":  chain(1000, paren()),
		"as many leaves as there may be":      file(leavesOf(api.MaxTokens)...),
		"as many leaves, in several nodes":    file(paren(leavesOf(api.MaxTokens/2)...), paren(leavesOf(api.MaxTokens/2)...)),
		"more nodes than leaves there may be": file(slices.Repeat(list(missing, file()), api.MaxTokens)...),
	} {
		if !tree.IsFormed(n) {
			t.Errorf("%s is not formed", what)
		}
	}
	for what, n := range broken() {
		if tree.IsFormed(n) {
			t.Errorf("%s is formed", what)
		}
	}
	for kind := -3; kind < 40; kind++ {
		if got, want := tree.IsFormed(node(kind)), kind >= api.NdFile && kind <= api.NdMissing; got != want {
			t.Errorf("an empty node of kind %d: %v", kind, got)
		}
	}
}

// P5.1: a Node that holds itself is too deep.
func TestIsFormedOfALoop(t *testing.T) {
	kids := list(name("a"), file(), file())
	kids[1].Kids, kids[2].Kids = kids, kids
	if tree.IsFormed(kids[1]) {
		t.Error("a Node that holds itself is formed")
	}
}

// spoil returns a tree with one of its parts changed by chance, so that it is often not formed any more.
func spoil(r *rand.Rand, n api.Node) api.Node {
	parts := modelParts(n)
	p := parts[r.Intn(len(parts))]
	by := p.node
	switch r.Intn(5) {
	case 0:
		by.Kind = r.Intn(31) - 1
	case 1:
		by.Token.Kind = r.Intn(10)
	case 2:
		by.Token.Text = list("", "a", "in", " ", "1", "//", "a b")[r.Intn(7)]
	case 3:
		by.Kids = list(name("a"))
	case 4:
		by.Kids = nil
	}
	return modelPut(n, p.position, by)
}

// P5.1: IsFormed against the model.
func TestIsFormedAgainstModel(t *testing.T) {
	formed := 0
	someTrees(4000, 20, func(r *rand.Rand, n api.Node) {
		for _, k := range list(n, spoil(r, n)) {
			want := modelFormed(k)
			if want {
				formed++
			}
			if got := tree.IsFormed(k); got != want {
				t.Errorf("IsFormed(%s) = %v", show(k), got)
			}
		}
	})
	if formed < 4000 || formed > 7000 {
		t.Errorf("%d of 8000 are formed", formed)
	}
}

// P5.1: Same of all pairs of small trees, and of trees that are not formed.
func TestSame(t *testing.T) {
	all := smallTrees(4, name("a"), name("b"), blank(" "), missing, paren(), file())
	for _, n := range broken() {
		if len(n.Kids) < 10 && (len(n.Kids) == 0 || len(n.Kids[0].Kids) == 0) {
			all = append(all, n)
		}
	}
	written := make([]string, len(all))
	for i, n := range all {
		written[i] = show(n)
	}
	for i, a := range all {
		for k, b := range all {
			if got := tree.Same(a, b); got != (written[i] == written[k]) {
				t.Fatalf("Same(%s, %s) = %v", written[i], written[k], got)
			}
		}
	}
}

// P5.1: one thing that differs, wherever it is.
func TestSameOfSpoiled(t *testing.T) {
	someTrees(3000, 25, func(r *rand.Rand, n api.Node) {
		other := spoil(r, n)
		if got := tree.Same(n, other); got != (show(n) == show(other)) {
			t.Errorf("Same(%s, %s) = %v", show(n), show(other), got)
		}
		if !tree.Same(n, n) {
			t.Errorf("%s is not the same as itself", show(n))
		}
	})
}

// P5.1: nil lists and empty ones are the same.
func TestSameOfEmptyLists(t *testing.T) {
	empty := api.Node{Kind: api.NdFile, Kids: []api.Node{}}
	if !tree.Same(empty, file()) || !tree.Same(file(), empty) || !tree.Same(paren(empty), paren(file())) || !tree.Same(api.Node{Kids: []api.Node{}}, api.Node{}) {
		t.Error("an empty list is not the same as nil")
	}
}

// P5.1: Same of as many levels as the document's bound lets in, and of Nodes that hold themselves: these have an end, too.
func TestSameOfDeepNodes(t *testing.T) {
	a, b, c := chain(1<<16, name("a")), chain(1<<16, name("a")), chain(1<<16, name("b"))
	if !tree.Same(a, b) || tree.Same(a, c) || tree.Same(a, chain(1<<16-1, name("a"))) {
		t.Error("Same of Nodes of 2^16 levels")
	}
	one, two := list(file(), name("a")), list(file(), name("b"))
	one[0].Kids, two[0].Kids = one, two
	if tree.Same(one[0], two[0]) {
		t.Error("Nodes that hold themselves and other leaves are the same")
	}
}
