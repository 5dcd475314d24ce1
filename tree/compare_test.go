package tree_test

import (
	"math/rand"
	"slices"
	"testing"

	"marginalia/api"
	"marginalia/tree"
)

// P5.5: Put of some Nodes at all positions of small trees and of random ones.
func TestPut(t *testing.T) {
	hold := func(n, by api.Node) {
		for _, p := range modelParts(n) {
			if got, e := tree.Put(n, p.position, by); show(got) != show(modelPut(n, p.position, by)) || e != api.OK {
				t.Errorf("Put(%s, %v, %s) = %s, %d", show(n), p.position, show(by), show(got), e)
			}
		}
	}
	for _, n := range smallTrees(4, name("a"), blank(" "), missing) {
		for _, by := range list(name("b"), missing, file(), paren(blank(" "), name("c")), example()) {
			hold(n, by)
		}
	}
	someTrees(500, 25, func(r *rand.Rand, n api.Node) { hold(n, randomTree(r, 10)) })
}

// P5.5: results that are just formed, and those that are not.
func TestPutAtTheLimits(t *testing.T) {
	full := file(leavesOf(api.MaxTokens)...)
	nearly := file(leavesOf(api.MaxTokens - 1)...)
	for _, c := range []struct {
		what     string
		tree     api.Node
		position []int
		by       api.Node
		want     api.Errno
	}{
		{"a leaf by a leaf, in a full tree", full, list(7), name("a"), api.OK},
		{"a leaf by two, in a full tree", full, list(7), paren(name("a"), name("b")), api.ErrForm},
		{"a leaf by none, in a full tree", full, list(api.MaxTokens - 1), missing, api.OK},
		{"a leaf by two, in one that is nearly full", nearly, list(0), paren(name("a"), name("b")), api.OK},
		{"all of a full tree by a full tree", full, nil, full, api.OK},
		{"a leaf by a full tree", file(name("a")), list(0), full, api.OK},
		{"one of two leaves by a full tree", file(name("a"), name("b")), list(0), full, api.ErrForm},
		{"a leaf by one that is as deep as it may be", chain(500, name("a")), make([]int, 500), chain(500, name("b")), api.OK},
		{"a leaf by one that is too deep there", chain(500, name("a")), make([]int, 500), chain(501, name("b")), api.ErrForm},
		{"a node by one that is too deep there", chain(500, name("a")), make([]int, 1), chain(1000, paren()), api.ErrForm},
		{"all by one that is as deep as it may be", name("a"), nil, chain(1000, paren()), api.OK},
	} {
		got, e := tree.Put(c.tree, c.position, c.by)
		want := api.Node{}
		if c.want == api.OK {
			want = modelPut(c.tree, c.position, c.by)
		}
		if show(got) != show(want) || e != c.want {
			t.Errorf("Put of %s: %d, not %d", c.what, e, c.want)
		}
	}
}

// shares holds Shared of trees.
func shares(t *testing.T, want int, l ...api.Node) {
	t.Helper()
	if got, e := tree.Shared(l); got != want || e != api.OK {
		t.Errorf("Shared of %d trees, the first ones %.200s: %d, %d, not %d", len(l), show(paren(l[:min(len(l), 2)]...)), got, e, want)
	}
}

// P5.6: Shared by example: what differs in anything is different.
func TestSharedByExample(t *testing.T) {
	shares(t, 0)
	shares(t, 1, name("a"))
	shares(t, 1, name("a"), name("a"))
	shares(t, 2, name("a"), name("b"))
	shares(t, 2, name("a"), leaf(api.TkBad, "#"))
	shares(t, 2, leaf(api.TkInt, "1"), leaf(api.TkInt, "11"))
	shares(t, 3, name("a"), name("aa"), name("a1"))
	shares(t, 3, file(), paren(), missing)
	shares(t, 1, file(), api.Node{Kind: api.NdFile, Kids: []api.Node{}})
	shares(t, 2, paren(), paren(paren()))
	shares(t, 2, paren(file(), file()))
	shares(t, 6, paren(file(name("a")), name("b")), file(name("a")), paren(file(name("a")), name("b"), missing))
	shares(t, 4, paren(name("a"), name("b")), paren(name("b"), name("a")))
	shares(t, 3, paren(name("a"), name("a")), paren(name("a")))
	shares(t, 5, paren(paren(name("a")), name("a")), paren(paren(name("a"), name("a"))))
	shares(t, 12, example())
	shares(t, 1001, chain(1000, name("a")))
	shares(t, 1001, chain(1000, name("a")), chain(999, name("a")), name("a"))
	shares(t, 2, file(leavesOf(api.MaxTokens)...))
	shares(t, 2, slices.Repeat(list(file(name("a"))), api.MaxModules)...)
}

// P5.6: Shared of lists of small trees, and of random ones, against the model.
func TestShared(t *testing.T) {
	all := smallTrees(4, name("a"), name("b"), missing)
	for _, a := range all {
		for _, b := range list(name("a"), paren(name("a")), paren(name("b"), missing), a) {
			shares(t, modelShared(list(a, b)), a, b)
		}
	}
	someTrees(400, 30, func(r *rand.Rand, n api.Node) {
		l := list(n, randomTree(r, 20), n, randomTree(r, 5))[:1+r.Intn(4)]
		shares(t, modelShared(l), l...)
	})
}

// changes holds Changed of two trees against the model.
func changes(t *testing.T, old, made api.Node) {
	t.Helper()
	want, differ := modelChanged(old, made)
	if got, d, e := tree.Changed(old, made); !slices.Equal(got, want) || d != differ || e != api.OK {
		t.Errorf("Changed(%s, %s) = %v, %v, %d, not %v, %v", show(old), show(made), got, d, e, want, differ)
	}
}

// P5.7: Changed of all pairs of small trees, and of random ones and what they become.
func TestChanged(t *testing.T) {
	all := smallTrees(4, name("a"), name("b"), missing)
	for _, old := range all {
		for _, made := range all {
			changes(t, old, made)
		}
	}
	someTrees(1000, 25, func(r *rand.Rand, n api.Node) {
		changes(t, n, n)
		made := n
		for range 1 + r.Intn(2) {
			parts := modelParts(made)
			made = modelPut(made, parts[r.Intn(len(parts))].position, randomTree(r, 1+r.Intn(4)))
			changes(t, n, made)
		}
	})
}

// P5.7: Changed by example: how deep it goes, and what it stops at.
func TestChangedByExample(t *testing.T) {
	a, b, c := name("a"), name("b"), name("c")
	for _, c := range []struct {
		old, made api.Node
		want      []int
		differ    bool
	}{
		{a, a, nil, false},
		{file(), api.Node{Kind: api.NdFile, Kids: []api.Node{}}, nil, false},
		{example(), example(), nil, false},
		{a, b, nil, true},
		{file(), paren(), nil, true},
		{file(a), file(b), list(0), true},
		{file(a), paren(a), nil, true},
		{file(a), file(), nil, true},
		{file(a, b), file(a), nil, true},
		{file(a, b), file(b, a), nil, true},
		{file(a, b), file(a, c), list(1), true},
		{file(a, paren(a, b), c), file(a, paren(b, b), c), list(1, 0), true},
		{file(a, paren(a, b), c), file(a, paren(b, a), c), list(1), true},
		{file(a, paren(a, b), c), file(b, paren(b, b), c), nil, true},
		{file(a, paren(a), c), file(a, a, c), list(1), true},
		{file(paren(paren(a))), file(paren(paren(a, a))), list(0, 0), true},
		{chain(1000, a), chain(1000, b), make([]int, 1000), true},
		{chain(1000, paren()), chain(1000, file()), make([]int, 1000), true},
		{chain(1000, a), chain(999, a), make([]int, 999), true},
	} {
		if got, differ, e := tree.Changed(c.old, c.made); !slices.Equal(got, c.want) || differ != c.differ || e != api.OK {
			t.Errorf("Changed(%.200s, %.200s) = %v, %v, %d, not %v, %v", show(c.old), show(c.made), got, differ, e, c.want, c.differ)
		}
	}
}
