package tree_test

import (
	"math/rand"
	"slices"
	"strings"
	"testing"

	"marginalia/api"
	"marginalia/token"
	"marginalia/tree"
)

// says holds Text, Width, Leaves and Count of a tree against what they are to be.
func says(t *testing.T, n api.Node) {
	t.Helper()
	text, depth := modelText(n), 0
	parts := modelParts(n)
	for _, p := range parts {
		depth = max(depth, len(p.position))
	}
	if got, e := tree.Text(n); got != text || e != api.OK {
		t.Errorf("Text(%.200s) = %.80q, %d", show(n), got, e)
	}
	if got, e := tree.Width(n); got != len(text) || e != api.OK {
		t.Errorf("Width(%.200s) = %d, %d", show(n), got, e)
	}
	if got, e := tree.Leaves(n); !slices.Equal(got, modelTokens(n)) || e != api.OK {
		t.Errorf("Leaves(%.200s) = %v, %d", show(n), got, e)
	}
	if count, deep, e := tree.Count(n); count != len(parts) || deep != depth || e != api.OK {
		t.Errorf("Count(%.200s) = %d, %d, %d, not %d, %d", show(n), count, deep, e, len(parts), depth)
	}
}

// P5.2: the chapter's example, written out.
func TestSaysOfTheExample(t *testing.T) {
	n := example()
	if text, e := tree.Text(n); text != "def f() = 1;" || e != api.OK {
		t.Errorf("Text: %q, %d", text, e)
	}
	if width, e := tree.Width(n); width != 12 || e != api.OK {
		t.Errorf("Width: %d, %d", width, e)
	}
	want, _ := token.Lex("def f() = 1;")
	if got, e := tree.Leaves(n); !slices.Equal(got, want) || e != api.OK {
		t.Errorf("Leaves: %v, %d", got, e)
	}
	if count, depth, e := tree.Count(n); count != 14 || depth != 3 || e != api.OK {
		t.Errorf("Count: %d, %d, %d", count, depth, e)
	}
}

// P5.2: of all small trees, and of random ones.
func TestSays(t *testing.T) {
	for _, n := range smallTrees(5, name("ab"), blank(" "), missing, file()) {
		says(t, n)
	}
	someTrees(2000, 40, func(_ *rand.Rand, n api.Node) { says(t, n) })
}

// P5.2: leaves alone, nothing at all, and as much as there may be.
func TestSaysAtTheEdges(t *testing.T) {
	long := strings.Repeat("a", api.MaxText)
	for _, n := range []api.Node{
		name("a"), blank("\n"), missing, file(), paren(missing, missing, file()), chain(1000, name("a")), chain(1000, paren()),
		file(leavesOf(api.MaxTokens)...), file(name(long), name(long), name("b")), file(slices.Repeat(list(missing), 2*api.MaxTokens)...),
		file(name("a"), name("b"), blank(" "), blank(" ")),
	} {
		says(t, n)
	}
}

// P5.4: All of each kind, against a filter of all parts.
func TestAll(t *testing.T) {
	hold := func(n api.Node) {
		for kind := -1; kind <= api.NdMissing+2; kind++ {
			var want [][]int
			for _, p := range modelParts(n) {
				if p.node.Kind == kind {
					want = append(want, p.position)
				}
			}
			if got, e := tree.All(n, kind); !slices.EqualFunc(got, want, slices.Equal) || e != api.OK {
				t.Errorf("All(%s, %d) = %v, %d, not %v", show(n), kind, got, e, want)
			}
		}
	}
	hold(example())
	for _, n := range smallTrees(5, name("a"), missing) {
		hold(n)
	}
	someTrees(1000, 40, func(_ *rand.Rand, n api.Node) { hold(n) })
}

// P5.4: the positions of the example, in rising order: a node comes before what is in it.
func TestAllOfTheExample(t *testing.T) {
	for _, c := range []struct {
		kind int
		want [][]int
	}{
		{api.NdFile, [][]int{{}}}, {api.NdDef, [][]int{{0}}}, {api.NdParams, [][]int{{0, 3}}}, {api.NdLiteral, [][]int{{0, 7}}}, {api.NdMissing, nil}, {0, nil}, {29, nil},
		{api.NdToken, [][]int{{0, 0}, {0, 1}, {0, 2}, {0, 3, 0}, {0, 3, 1}, {0, 4}, {0, 5}, {0, 6}, {0, 7, 0}, {0, 8}}},
	} {
		if got, e := tree.All(example(), c.kind); !slices.EqualFunc(got, c.want, slices.Equal) || e != api.OK {
			t.Errorf("All of kind %d: %v, %d", c.kind, got, e)
		}
	}
	if got, _ := tree.All(paren(paren(paren()), paren()), api.NdParen); !slices.EqualFunc(got, [][]int{{}, {0}, {0, 0}, {1}}, slices.Equal) {
		t.Errorf("All of nodes one in another: %v", got)
	}
}
