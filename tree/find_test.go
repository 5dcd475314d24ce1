package tree_test

import (
	"math"
	"math/rand"
	"slices"
	"testing"

	"marginalia/api"
	"marginalia/tree"
)

// stands holds At, Span and Core of all positions of a tree against the model, and of positions beside them.
func stands(t *testing.T, n api.Node) {
	t.Helper()
	for _, p := range modelParts(n) {
		if got, e := tree.At(n, p.position); show(got) != show(p.node) || e != api.OK {
			t.Errorf("At(%s, %v) = %s, %d", show(n), p.position, show(got), e)
		}
		if got, e := tree.Span(n, p.position); got != p.span || e != api.OK {
			t.Errorf("Span(%s, %v) = %v, %d, not %v", show(n), p.position, got, e, p.span)
		}
		if got, e := tree.Core(n, p.position); got != modelCore(n, p) || e != api.OK {
			t.Errorf("Core(%s, %v) = %v, %d, not %v", show(n), p.position, got, e, modelCore(n, p))
		}
		for _, index := range list(-1, len(p.node.Kids), math.MaxInt, math.MinInt) {
			isNowhere(t, n, append(slices.Clone(p.position), index))
			isNowhere(t, n, append(slices.Clone(p.position), index, 0))
		}
	}
}

// isNowhere holds that there is nothing at a position.
func isNowhere(t *testing.T, n api.Node, position []int) {
	t.Helper()
	if got, e := tree.At(n, position); show(got) != show(api.Node{}) || e != api.ErrArg {
		t.Errorf("At(%s, %v) = %s, %d", show(n), position, show(got), e)
	}
	if got, e := tree.Span(n, position); got != (api.Span{}) || e != api.ErrArg {
		t.Errorf("Span(%s, %v) = %v, %d", show(n), position, got, e)
	}
	if got, e := tree.Core(n, position); got != (api.Span{}) || e != api.ErrArg {
		t.Errorf("Core(%s, %v) = %v, %d", show(n), position, got, e)
	}
	if got, e := tree.Put(n, position, name("a")); show(got) != show(api.Node{}) || e != api.ErrArg {
		t.Errorf("Put(%s, %v) = %s, %d", show(n), position, show(got), e)
	}
}

// P5.3: of all small trees, and of random ones.
func TestStands(t *testing.T) {
	stands(t, example())
	for _, n := range smallTrees(5, name("ab"), blank(" "), missing) {
		stands(t, n)
	}
	someTrees(500, 30, func(_ *rand.Rand, n api.Node) { stands(t, n) })
}

// P5.3: spans and cores by example: the trivia at both ends is not in the core, that between is.
func TestSpanAndCore(t *testing.T) {
	n := file(blank("  "), node(api.NdDef, remark("// r"), blank("\n"), name("a"), blank(" "), paren(blank(" "), sign("("), missing, blank(" ")), remark("//")), file(), paren(blank("\t"), missing, remark("//x")))
	for _, c := range []struct {
		position   []int
		span, core api.Span
	}{
		{nil, api.Span{From: 0, To: 18}, api.Span{From: 7, To: 11}},
		{list(0), api.Span{From: 0, To: 2}, api.Span{From: 0, To: 0}},
		{list(1), api.Span{From: 2, To: 14}, api.Span{From: 7, To: 11}},
		{list(1, 0), api.Span{From: 2, To: 6}, api.Span{From: 2, To: 2}},
		{list(1, 2), api.Span{From: 7, To: 8}, api.Span{From: 7, To: 8}},
		{list(1, 4), api.Span{From: 9, To: 12}, api.Span{From: 10, To: 11}},
		{list(1, 4, 2), api.Span{From: 11, To: 11}, api.Span{From: 11, To: 11}},
		{list(2), api.Span{From: 14, To: 14}, api.Span{From: 14, To: 14}},
		{list(3), api.Span{From: 14, To: 18}, api.Span{From: 14, To: 14}},
		{list(3, 1), api.Span{From: 15, To: 15}, api.Span{From: 15, To: 15}},
	} {
		if got, e := tree.Span(n, c.position); got != c.span || e != api.OK {
			t.Errorf("Span at %v: %v, %d, not %v", c.position, got, e, c.span)
		}
		if got, e := tree.Core(n, c.position); got != c.core || e != api.OK {
			t.Errorf("Core at %v: %v, %d, not %v", c.position, got, e, c.core)
		}
	}
}

// P5.3: a position that is longer than a tree may be deep.
func TestAtFarDown(t *testing.T) {
	deep := chain(1000, name("a"))
	if got, e := tree.At(deep, make([]int, 1000)); show(got) != show(name("a")) || e != api.OK {
		t.Errorf("At the deepest leaf: %s, %d", show(got), e)
	}
	isNowhere(t, deep, make([]int, 1001))
	isNowhere(t, deep, make([]int, 100000))
}

// finds holds Find of all offsets of a tree, and of some that it has not, against the model.
func finds(t *testing.T, n api.Node) {
	t.Helper()
	width := len(modelText(n))
	for offset := range width + 1 {
		want, there := modelFind(n, offset)
		if got, e := tree.Find(n, offset); !slices.Equal(got, want) || there && e != api.OK || !there && e != api.ErrNone {
			t.Errorf("Find(%s, %d) = %v, %d, not %v", show(n), offset, got, e, want)
		}
	}
	for _, offset := range list(-1, width+1, math.MinInt, math.MaxInt) {
		if got, e := tree.Find(n, offset); len(got) > 0 || e != api.ErrArg {
			t.Errorf("Find(%s, %d) = %v, %d", show(n), offset, got, e)
		}
	}
}

// P5.4: Find of all small trees, and of random ones.
func TestFind(t *testing.T) {
	for _, n := range smallTrees(5, name("ab"), blank(" "), missing) {
		finds(t, n)
	}
	someTrees(1000, 30, func(_ *rand.Rand, n api.Node) { finds(t, n) })
}

// P5.4: the chapter's example, and others: the root as a leaf, empty nodes between and at the end.
func TestFindByExample(t *testing.T) {
	n := example()
	if len(n.Kids) != 1 || n.Kids[0].Kind != api.NdDef {
		t.Error("the root has not one kid, NdDef")
	}
	if leaf, _ := tree.At(n, list(0, 2)); show(leaf) != show(name("f")) {
		t.Errorf("At the name: %s", show(leaf))
	}
	holed := file(missing, name("ab"), file(), paren(missing, sign("("), missing), missing)
	for _, c := range []struct {
		tree   api.Node
		offset int
		want   []int
	}{
		{n, 0, list(0, 0)}, {n, 2, list(0, 0)}, {n, 3, list(0, 1)}, {n, 4, list(0, 2)}, {n, 5, list(0, 3, 0)}, {n, 10, list(0, 7, 0)}, {n, 11, list(0, 8)}, {n, 12, list(0, 8)},
		{name("ab"), 0, nil}, {name("ab"), 2, nil},
		{holed, 0, list(1)}, {holed, 1, list(1)}, {holed, 2, list(3, 1)}, {holed, 3, list(3, 1)},
	} {
		if got, e := tree.Find(c.tree, c.offset); !slices.Equal(got, c.want) || e != api.OK {
			t.Errorf("Find(%s, %d) = %v, %d, not %v", show(c.tree), c.offset, got, e, c.want)
		}
	}
	for _, empty := range []api.Node{file(), missing, file(missing, paren(file()))} {
		if got, e := tree.Find(empty, 0); len(got) > 0 || e != api.ErrNone {
			t.Errorf("Find(%s, 0) = %v, %d", show(empty), got, e)
		}
		if got, e := tree.Find(empty, 1); len(got) > 0 || e != api.ErrArg {
			t.Errorf("Find(%s, 1) = %v, %d", show(empty), got, e)
		}
	}
}

// covers holds Cover of all spans of a tree, and of some that it has not, against the model.
func covers(t *testing.T, n api.Node) {
	t.Helper()
	width := len(modelText(n))
	for from := range width + 1 {
		for to := from; to <= width; to++ {
			s := api.Span{From: from, To: to}
			if got, e := tree.Cover(n, s); !slices.Equal(got, modelCover(n, s)) || e != api.OK {
				t.Errorf("Cover(%s, %v) = %v, %d, not %v", show(n), s, got, e, modelCover(n, s))
			}
		}
	}
	for _, s := range []api.Span{{From: -1, To: 0}, {From: -1, To: -1}, {From: 0, To: width + 1}, {From: width + 1, To: width + 1}, {From: 1, To: 0}, {From: width, To: width - 1}, {From: math.MinInt, To: math.MaxInt}, {From: math.MaxInt, To: math.MinInt}, {From: 0, To: math.MaxInt}} {
		if got, e := tree.Cover(n, s); len(got) > 0 || e != api.ErrArg {
			t.Errorf("Cover(%s, %v) = %v, %d", show(n), s, got, e)
		}
	}
}

// P5.4: Cover of all small trees, and of random ones.
func TestCover(t *testing.T) {
	covers(t, example())
	for _, n := range smallTrees(5, name("ab"), blank(" "), missing) {
		covers(t, n)
	}
	someTrees(400, 20, func(_ *rand.Rand, n api.Node) { covers(t, n) })
}

// P5.4: Cover by example: one in another, the deepest; side by side, the last one, however deep the others are.
func TestCoverByExample(t *testing.T) {
	n := example()
	holed := file(paren(paren(name("ab"))), sign("("), paren(missing, paren(file())), missing)
	for _, c := range []struct {
		tree api.Node
		span api.Span
		want []int
	}{
		{n, api.Span{From: 0, To: 12}, list(0)}, {n, api.Span{From: 4, To: 5}, list(0, 2)}, {n, api.Span{From: 5, To: 7}, list(0, 3)}, {n, api.Span{From: 4, To: 6}, list(0)}, {n, api.Span{From: 10, To: 11}, list(0, 7, 0)},
		{n, api.Span{From: 1, To: 1}, list(0, 0)}, {n, api.Span{From: 5, To: 5}, list(0, 3, 0)}, {n, api.Span{From: 7, To: 7}, list(0, 4)}, {n, api.Span{From: 0, To: 0}, list(0, 0)}, {n, api.Span{From: 12, To: 12}, list(0, 8)},
		{holed, api.Span{From: 0, To: 2}, list(0, 0, 0)}, {holed, api.Span{From: 1, To: 1}, list(0, 0, 0)}, {holed, api.Span{From: 2, To: 2}, list(1)}, {holed, api.Span{From: 3, To: 3}, list(3)}, {holed, api.Span{From: 1, To: 3}, nil},
		{file(holed.Kids[:3]...), api.Span{From: 3, To: 3}, list(2, 1, 0)},
		{file(), api.Span{}, nil}, {name("a"), api.Span{From: 0, To: 1}, nil}, {name("a"), api.Span{From: 1, To: 1}, nil},
	} {
		if got, e := tree.Cover(c.tree, c.span); !slices.Equal(got, c.want) || e != api.OK {
			t.Errorf("Cover(%s, %v) = %v, %d, not %v", show(c.tree), c.span, got, e, c.want)
		}
	}
}
