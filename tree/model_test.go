package tree_test

import (
	"math/rand"
	"slices"
	"strconv"
	"strings"
	"testing"

	"marginalia/api"
	"marginalia/token"
)

// The models say again, in the plainest way, what the document says: the tests hold the package against them.

// part is a leaf or a node of a tree, and what the chapter says of where it is.
type part struct {
	position []int
	node     api.Node
	span     api.Span
}

// modelParts returns all leaves and nodes of a tree, in rising order of their positions.
func modelParts(n api.Node) []part {
	var parts []part
	var add func(n api.Node, position []int, from int) int
	add = func(n api.Node, position []int, from int) int {
		own := len(parts)
		parts = append(parts, part{position: slices.Clone(position), node: n})
		to := from + len(n.Token.Text)
		for i, kid := range n.Kids {
			to = add(kid, append(slices.Clone(position), i), to)
		}
		parts[own].span = api.Span{From: from, To: to}
		return to
	}
	add(n, nil, 0)
	return parts
}

// modelLeaves returns the leaves of a tree.
func modelLeaves(n api.Node) []part {
	return slices.DeleteFunc(modelParts(n), func(p part) bool { return p.node.Kind != api.NdToken })
}

// modelTokens returns the tokens of a tree's leaves.
func modelTokens(n api.Node) []api.Token {
	var tokens []api.Token
	for _, p := range modelLeaves(n) {
		tokens = append(tokens, p.node.Token)
	}
	return tokens
}

// modelText returns the string of a tree.
func modelText(n api.Node) string {
	text := n.Token.Text
	for _, kid := range n.Kids {
		text += modelText(kid)
	}
	return text
}

// modelFormed says what a formed Node is, of one that is not too large.
func modelFormed(n api.Node) bool {
	for _, p := range modelParts(n) {
		isLeaf := p.node.Kind == api.NdToken
		switch {
		case p.node.Kind < api.NdToken || p.node.Kind > api.NdMissing:
			return false
		case isLeaf && (!token.IsToken(p.node.Token) || len(p.node.Kids) > 0):
			return false
		case !isLeaf && p.node.Token != api.Token{}:
			return false
		case p.node.Kind == api.NdMissing && len(p.node.Kids) > 0:
			return false
		case len(p.position) > 1000:
			return false
		}
	}
	return len(modelLeaves(n)) <= 20000
}

// modelCore returns the core of a part of a tree.
func modelCore(n api.Node, at part) api.Span {
	core := api.Span{From: -1}
	for _, p := range modelLeaves(n) {
		if len(p.position) < len(at.position) || !slices.Equal(p.position[:len(at.position)], at.position) || token.IsTrivia(p.node.Token) {
			continue
		}
		if core.From < 0 {
			core.From = p.span.From
		}
		core.To = p.span.To
	}
	if core.From < 0 {
		return api.Span{From: at.span.From, To: at.span.From}
	}
	return core
}

// modelFind returns the position of the leaf at an offset, and whether there is one.
func modelFind(n api.Node, offset int) ([]int, bool) {
	all := modelLeaves(n)
	if len(all) == 0 {
		return nil, false
	}
	for _, p := range all {
		if p.span.From <= offset && offset < p.span.To {
			return p.position, true
		}
	}
	return all[len(all)-1].position, true
}

func holds(outer, inner api.Span) bool {
	return outer.From <= inner.From && inner.To <= outer.To
}

// modelCover takes away what holds the span and has something in it that does, too: what is left is side by side, and the last one counts.
func modelCover(n api.Node, s api.Span) []int {
	var all []part
	for _, p := range modelParts(n) {
		if holds(p.span, s) {
			all = append(all, p)
		}
	}
	var found []int
	for _, p := range all {
		if !slices.ContainsFunc(all, func(q part) bool {
			return len(q.position) > len(p.position) && slices.Equal(q.position[:len(p.position)], p.position)
		}) {
			found = p.position
		}
	}
	return found
}

// modelAt returns what is at a position, and whether there is anything.
func modelAt(n api.Node, position []int) (api.Node, bool) {
	for _, p := range modelParts(n) {
		if slices.Equal(p.position, position) {
			return p.node, true
		}
	}
	return api.Node{}, false
}

// modelPut returns a tree with another Node at a position.
func modelPut(n api.Node, position []int, by api.Node) api.Node {
	if len(position) == 0 {
		return by
	}
	n.Kids = slices.Clone(n.Kids)
	n.Kids[position[0]] = modelPut(n.Kids[position[0]], position[1:], by)
	return n
}

// modelShared counts the different ones among all parts.
func modelShared(l []api.Node) int {
	var different []string
	for _, n := range l {
		for _, p := range modelParts(n) {
			if s := show(p.node); !slices.Contains(different, s) {
				different = append(different, s)
			}
		}
	}
	return len(different)
}

// modelChanged tries all positions: those that do are one in another.
func modelChanged(old, made api.Node) (position []int, differ bool) {
	if show(old) == show(made) {
		return nil, false
	}
	for _, p := range modelParts(old) {
		by, there := modelAt(made, p.position)
		if there && show(modelPut(old, p.position, by)) == show(made) && len(p.position) >= len(position) {
			position = p.position
		}
	}
	return position, true
}

// show writes a Node: what is written of two Nodes is the same just if they are.
func show(n api.Node) string {
	var s strings.Builder
	write(&s, n)
	return s.String()
}

func write(s *strings.Builder, n api.Node) {
	s.WriteString(strconv.Itoa(n.Kind))
	if n.Token != (api.Token{}) {
		s.WriteString("~" + strconv.Itoa(n.Token.Kind) + strconv.Quote(n.Token.Text))
	}
	if len(n.Kids) > 0 {
		s.WriteByte('[')
		for _, kid := range n.Kids {
			write(s, kid)
			s.WriteByte(' ')
		}
		s.WriteByte(']')
	}
}

// Trees are written by their kinds.
func node(kind int, kids ...api.Node) api.Node { return api.Node{Kind: kind, Kids: kids} }
func file(kids ...api.Node) api.Node           { return node(api.NdFile, kids...) }
func paren(kids ...api.Node) api.Node          { return node(api.NdParen, kids...) }

func leaf(kind int, s string) api.Node {
	return api.Node{Kind: api.NdToken, Token: api.Token{Kind: kind, Text: s}}
}
func blank(s string) api.Node  { return leaf(api.TkBlank, s) }
func remark(s string) api.Node { return leaf(api.TkRemark, s) }
func name(s string) api.Node   { return leaf(api.TkName, s) }
func sign(s string) api.Node   { return leaf(api.TkSign, s) }

var missing = node(api.NdMissing)

// list writes a list of anything.
func list[T any](all ...T) []T { return all }

// example is the tree of the chapter's example, `def f() = 1;`.
func example() api.Node {
	return file(node(api.NdDef,
		leaf(api.TkWord, "def"), blank(" "), name("f"), node(api.NdParams, sign("("), sign(")")),
		blank(" "), sign("="), blank(" "), node(api.NdLiteral, leaf(api.TkInt, "1")), sign(";")))
}

// chain returns a Node within as many nodes, one in another.
func chain(depth int, in api.Node) api.Node {
	for range depth {
		in = paren(in)
	}
	return in
}

// leavesOf returns as many leaves.
func leavesOf(count int) []api.Node {
	return slices.Repeat(list(sign("(")), count)
}

// partsOfTrees are what random trees are made of: solid leaves, trivia, empty nodes.
var partsOfTrees = []api.Node{
	name("a"), name("bc"), name("A"), leaf(api.TkWord, "def"), leaf(api.TkInt, "12"), leaf(api.TkText, `"t"`), sign("("), sign("=>"), leaf(api.TkBad, "#"), leaf(api.TkBad, `"x`),
	blank(" "), blank("\n  "), remark("// r"), blank(" "), blank("\t"), remark("//"),
	missing, missing, file(), paren(),
}

// randomTree returns a tree of about as many parts.
func randomTree(r *rand.Rand, size int) api.Node {
	if size <= 1 {
		return partsOfTrees[r.Intn(len(partsOfTrees))]
	}
	n := node(2 + r.Intn(api.NdMissing-2))
	for size--; size > 0; {
		take := 1 + r.Intn(size)
		n.Kids = append(n.Kids, randomTree(r, take))
		size -= take
	}
	return n
}

// someTrees calls visit with random trees, always the same ones.
func someTrees(count, size int, visit func(r *rand.Rand, n api.Node)) {
	r := rand.New(rand.NewSource(5))
	for range count {
		visit(r, randomTree(r, 1+r.Intn(size)))
	}
}

// smallTrees returns all trees of at most as many parts, made of some leaves and empty nodes, and of one kind of nodes that hold them.
func smallTrees(most int, ends ...api.Node) []api.Node {
	lists := make([][][]api.Node, most)
	lists[0] = [][]api.Node{nil}
	all := slices.Clone(ends)
	bySize := make([][]api.Node, most+1)
	bySize[1] = slices.Clone(ends)
	for size := 1; size < most; size++ {
		for first := 1; first <= size; first++ {
			for _, n := range bySize[first] {
				for _, rest := range lists[size-first] {
					lists[size] = append(lists[size], append(list(n), rest...))
				}
			}
		}
		for _, kids := range lists[size] {
			bySize[size+1] = append(bySize[size+1], paren(kids...))
		}
		all = append(all, bySize[size+1]...)
	}
	return all
}

// grown returns a tree of a string in which each bracket has a node of its own, one in another: its leaves are the string's tokens.
func grown(t *testing.T, text string) api.Node {
	t.Helper()
	tokens, e := token.Lex(text)
	if e != api.OK {
		t.Fatalf("Lex(%.40q): %d", text, e)
	}
	open := []api.Node{file()}
	for _, k := range tokens {
		last := len(open) - 1
		if k.Text == "(" {
			open = append(open, paren())
			last++
		}
		open[last].Kids = append(open[last].Kids, api.Node{Kind: api.NdToken, Token: k})
		if k.Text == ")" && last > 0 {
			open[last-1].Kids = append(open[last-1].Kids, open[last])
			open = open[:last]
		}
	}
	for last := len(open) - 1; last > 0; last-- {
		open[last-1].Kids = append(open[last-1].Kids, open[last])
	}
	return open[0]
}
