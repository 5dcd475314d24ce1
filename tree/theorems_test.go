package tree_test

import (
	"math/rand"
	"slices"
	"testing"

	"marginalia/api"
	"marginalia/token"
	"marginalia/tree"
)

// partsOfTexts are what random strings are made of, with many brackets.
var partsOfTexts = list("def ", "f", "x", " ", "\n", "(", "(", "(", ")", ")", ")", "=", "1", ";", "// r\n", `"t"`, "#", `"`, ",", "+")

// manyTrees calls visit with small trees, with random ones, and with some that are grown of strings.
func manyTrees(t *testing.T, visit func(r *rand.Rand, n api.Node)) {
	t.Helper()
	r := rand.New(rand.NewSource(50))
	for _, n := range smallTrees(4, name("ab"), blank(" "), missing) {
		visit(r, n)
	}
	someTrees(300, 25, visit)
	for range 200 {
		text := ""
		for range r.Intn(20) {
			text += partsOfTexts[r.Intn(len(partsOfTexts))]
		}
		n := grown(t, text)
		if got, e := tree.Text(n); got != text || e != api.OK {
			t.Errorf("Text of the tree of %q: %q, %d", text, got, e)
		}
		visit(r, n)
	}
}

// positions returns the positions of all leaves and nodes, by All of all kinds.
func positions(t *testing.T, n api.Node) [][]int {
	t.Helper()
	var all [][]int
	for kind := api.NdToken; kind <= api.NdMissing; kind++ {
		some, e := tree.All(n, kind)
		if e != api.OK {
			t.Fatalf("All(%s, %d): %d", show(n), kind, e)
		}
		if !slices.IsSortedFunc(some, slices.Compare) {
			t.Errorf("All(%s, %d) does not rise: %v", show(n), kind, some)
		}
		all = append(all, some...)
	}
	return all
}

// spanAt returns the span of a position that there is.
func spanAt(t *testing.T, n api.Node, position []int) api.Span {
	t.Helper()
	s, e := tree.Span(n, position)
	if e != api.OK {
		t.Fatalf("Span(%s, %v): %d", show(n), position, e)
	}
	return s
}

// at returns what is at a position that there is.
func at(t *testing.T, n api.Node, position []int) api.Node {
	t.Helper()
	part, e := tree.At(n, position)
	if e != api.OK {
		t.Fatalf("At(%s, %v): %d", show(n), position, e)
	}
	return part
}

// P5.8: the leaves' strings are the string; the kids' spans are the node's, one after the other.
func TestLeavesAndSpans(t *testing.T) {
	manyTrees(t, func(_ *rand.Rand, n api.Node) {
		text, _ := tree.Text(n)
		leaves, _ := tree.Leaves(n)
		joined := ""
		for _, k := range leaves {
			joined += k.Text
		}
		width, _ := tree.Width(n)
		if joined != text || width != len(text) || spanAt(t, n, nil) != (api.Span{From: 0, To: width}) {
			t.Errorf("%s: the leaves are %q, the string %q, the width %d", show(n), joined, text, width)
		}
		all := positions(t, n)
		if count, _, _ := tree.Count(n); count != len(all) {
			t.Errorf("Count of %s is %d, not %d", show(n), count, len(all))
		}
		for _, position := range all {
			part, own := at(t, n, position), spanAt(t, n, position)
			if s, _ := tree.Text(part); s != text[own.From:own.To] {
				t.Errorf("%s: %q at %v", show(n), s, own)
			}
			end := own.From
			for i := range part.Kids {
				kid := spanAt(t, n, append(slices.Clone(position), i))
				if kid.From != end {
					t.Errorf("%s: kid %d at %v begins at %d, not %d", show(n), i, position, kid.From, end)
				}
				end = kid.To
			}
			if part.Kind != api.NdToken && end != own.To {
				t.Errorf("%s: the kids at %v end at %d, not %d", show(n), position, end, own.To)
			}
		}
	})
}

// P5.3, P5.8: a core is in its span, has no trivia at its ends, and beside it is trivia alone.
func TestCores(t *testing.T) {
	manyTrees(t, func(_ *rand.Rand, n api.Node) {
		for _, position := range positions(t, n) {
			own := spanAt(t, n, position)
			core, _ := tree.Core(n, position)
			if !holds(own, core) {
				t.Errorf("%s: the core at %v is %v, the span %v", show(n), position, core, own)
			}
			end := own.From
			for _, k := range modelTokens(at(t, n, position)) {
				begin := end
				end += len(k.Text)
				within := core.From <= begin && end <= core.To
				if !token.IsTrivia(k) && !within || token.IsTrivia(k) && within && (begin == core.From || end == core.To) {
					t.Errorf("%s: the core at %v is %v", show(n), position, core)
				}
			}
		}
	})
}

// P5.9: Find's leaf holds the byte; Cover's node holds the span, and none of its kids does.
func TestFinding(t *testing.T) {
	manyTrees(t, func(_ *rand.Rand, n api.Node) {
		width, _ := tree.Width(n)
		for offset := range width {
			position, e := tree.Find(n, offset)
			if own := spanAt(t, n, position); e != api.OK || at(t, n, position).Kind != api.NdToken || offset < own.From || offset >= own.To {
				t.Errorf("Find(%s, %d) = %v, %d", show(n), offset, position, e)
			}
		}
		for from := range width + 1 {
			for to := from; to <= width; to++ {
				s := api.Span{From: from, To: to}
				position, e := tree.Cover(n, s)
				if e != api.OK || !holds(spanAt(t, n, position), s) {
					t.Errorf("Cover(%s, %v) = %v, %d", show(n), s, position, e)
				}
				for i := range at(t, n, position).Kids {
					if holds(spanAt(t, n, append(slices.Clone(position), i)), s) {
						t.Errorf("Cover(%s, %v) = %v, but kid %d holds it", show(n), s, position, i)
					}
				}
			}
		}
	})
}

// P5.10: At of Put is what was put; Put of At changes nothing.
func TestPutting(t *testing.T) {
	manyTrees(t, func(r *rand.Rand, n api.Node) {
		for _, position := range positions(t, n) {
			by := randomTree(r, 5)
			made, e := tree.Put(n, position, by)
			if e != api.OK || !tree.Same(at(t, made, position), by) {
				t.Errorf("Put(%s, %v, %s) = %s, %d", show(n), position, show(by), show(made), e)
			}
			same, e := tree.Put(n, position, at(t, n, position))
			if e != api.OK || !tree.Same(same, n) {
				t.Errorf("Put of At(%s, %v): %s, %d", show(n), position, show(same), e)
			}
		}
	})
}

// P5.10: Put of the new tree's part at Changed's position into the old tree is the new tree; it lies at the position of the change, or above it if two parts differ.
func TestPuttingWhatChanged(t *testing.T) {
	manyTrees(t, func(r *rand.Rand, n api.Node) {
		all := positions(t, n)
		put := all[r.Intn(len(all))]
		once, e := tree.Put(n, put, randomTree(r, 4))
		if e != api.OK {
			t.Fatalf("Put(%s, %v): %d", show(n), put, e)
		}
		all = positions(t, once)
		twice, _ := tree.Put(once, all[r.Intn(len(all))], randomTree(r, 4))
		for _, made := range list(once, twice, n) {
			position, differ, e := tree.Changed(n, made)
			if e != api.OK || differ == tree.Same(n, made) {
				t.Fatalf("Changed(%s, %s) = %v, %v, %d", show(n), show(made), position, differ, e)
			}
			if !differ {
				continue
			}
			back, e := tree.Put(n, position, at(t, made, position))
			if e != api.OK || !tree.Same(back, made) {
				t.Errorf("Changed(%s, %s) = %v: Put makes %s", show(n), show(made), position, show(back))
			}
		}
		if position, differ, _ := tree.Changed(n, once); differ && (len(position) < len(put) || !slices.Equal(position[:len(put)], put)) {
			t.Errorf("Put at %v, but Changed is %v", put, position)
		}
	})
}

// P5.11: Shared of a tree twice is Shared of it once; it is at most the sum of Count's, and all of it if no two parts are the same.
func TestSharing(t *testing.T) {
	manyTrees(t, func(r *rand.Rand, n api.Node) {
		other := randomTree(r, 20)
		once, _ := tree.Shared(list(n))
		twice, _ := tree.Shared(list(n, n))
		both, e := tree.Shared(list(n, other))
		turned, _ := tree.Shared(list(other, n))
		if twice != once || both != turned || e != api.OK {
			t.Errorf("%s: once %d, twice %d, with %s %d and %d", show(n), once, twice, show(other), both, turned)
		}
		count, _, _ := tree.Count(n)
		otherCount, _, _ := tree.Count(other)
		if once > count || both > count+otherCount || both < once {
			t.Errorf("%s: Shared is %d, with %s %d, but Count %d and %d", show(n), once, show(other), both, count, otherCount)
		}
		for _, position := range positions(t, n) {
			if got, _ := tree.Shared(list(n, at(t, n, position))); got != once {
				t.Errorf("Shared of %s with its part at %v is %d, not %d", show(n), position, got, once)
			}
		}
	})
}
