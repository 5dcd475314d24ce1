package tree_test

import (
	"slices"
	"testing"

	"marginalia/api"
	"marginalia/tree"
)

// overwrite puts another leaf in place of all kids of a Node, the deepest ones first, and one behind each list of them.
func overwrite(n api.Node) {
	for i := range n.Kids {
		overwrite(n.Kids[i])
		n.Kids[i] = name("overwritten")
	}
	_ = append(n.Kids, name("overwritten"))
}

// Rule 4: no function changes its argument, and trees in results are new memory.
func TestTreesAreNew(t *testing.T) {
	n, by := example(), paren(name("x"), paren(blank(" ")))
	wantTree, wantBy := show(n), show(by)
	hold := func(what string) {
		t.Helper()
		if show(n) != wantTree || show(by) != wantBy {
			t.Fatalf("%s shares memory with its argument", what)
		}
	}
	for _, p := range modelParts(n) {
		got, _ := tree.At(n, p.position)
		hold("At")
		overwrite(got)
		hold("a result of At")
		got, _ = tree.Put(n, p.position, by)
		hold("Put")
		overwrite(got)
		hold("a result of Put")
	}
	l := list(n, by)
	tree.Shared(l)
	tree.Changed(n, by)
	hold("Shared or Changed")
}

// Rule 4: lists in a result share no memory with one another, even if those of the argument do.
func TestTreesShareNothing(t *testing.T) {
	kids := list(name("a"), name("b"))
	twice := file(paren(kids...), paren(kids...))
	at, _ := tree.At(twice, nil)
	put, _ := tree.Put(file(missing, paren(kids...)), list(0), paren(kids...))
	for what, got := range map[string]api.Node{"At": at, "Put": put} {
		if show(got) != show(twice) {
			t.Errorf("%s: %s", what, show(got))
		}
		overwrite(got.Kids[0])
		if show(got.Kids[1]) != show(paren(kids...)) {
			t.Errorf("two nodes in a result of %s share memory", what)
		}
	}
}

// Rule 4: lists in results are new memory, one by one.
func TestListsAreNew(t *testing.T) {
	n := example()
	leaves, _ := tree.Leaves(n)
	clear(leaves)
	if again, _ := tree.Leaves(n); !slices.Equal(again, modelTokens(n)) {
		t.Error("Leaves shares memory with its argument")
	}
	all, _ := tree.All(n, api.NdToken)
	want, _ := tree.All(n, api.NdToken)
	for i := range all {
		_ = append(all[i], 77)
		all[i][0] = 99
		if !slices.EqualFunc(all[i+1:], want[i+1:], slices.Equal) {
			t.Fatal("two positions in a result of All share memory")
		}
	}
}

// Rule 4: a position that is handed in is not changed, and what is behind it is not either.
func TestPositionsStay(t *testing.T) {
	whole := list(0, 3, 1, 5, 6)
	n := example()
	tree.At(n, whole[:2])
	tree.Span(n, whole[:2])
	tree.Core(n, whole[:2])
	got, _ := tree.Put(n, whole[:2], name("a"))
	overwrite(got)
	if !slices.Equal(whole, list(0, 3, 1, 5, 6)) {
		t.Errorf("the position is %v", whole)
	}
}
