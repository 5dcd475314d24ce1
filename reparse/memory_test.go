package reparse_test

import (
	"slices"
	"strconv"
	"strings"
	"testing"

	"marginalia/api"
	"marginalia/reparse"
	"marginalia/tree"
)

// listsOf returns all lists of Kids in a Node, each with what is behind it.
func listsOf(n api.Node) [][]api.Node {
	var lists [][]api.Node
	for _, kid := range n.Kids {
		lists = append(lists, listsOf(kid)...)
	}
	return append(lists, n.Kids[:cap(n.Kids)])
}

// Rule 4: results are new memory, and arguments stay as they are. Each place of all lists, of the old tree and of the new one, is overwritten by another mark, and none overwrites another one.
func TestMemory(t *testing.T) {
	old, again := parsed(t, sample), parsed(t, sample)
	edits := list(edit(20, 20, "x"), edit(90, 91, ""))
	given := slices.Clone(edits)
	made, taken, e := reparse.Reparse(old, edits)
	if !tree.Same(old, again) || !slices.Equal(edits, given) || taken < 2 || e != api.OK {
		t.Errorf("Reparse changes its arguments: %s, %v, %d, %d", show(old), edits, taken, e)
	}
	clear(edits)
	if want := parsed(t, modelApply(sample, given)); !tree.Same(made, want) {
		t.Errorf("a tree hangs on the edits: %s, not %s", show(made), show(want))
	}
	lists := append(listsOf(old), listsOf(made)...)
	mark := func(list, index int) string { return strconv.Itoa(list) + " " + strconv.Itoa(index) }
	for i, l := range lists {
		for k := range l {
			l[k] = leaf(api.TkBad, mark(i, k))
		}
	}
	for i, l := range lists {
		for k := range l {
			if l[k].Token.Text != mark(i, k) {
				t.Fatal("two lists share memory")
			}
		}
	}
}

// Rule 4: lists of indexes are new memory, too, and their arguments stay as they are.
func TestMemoryOfLists(t *testing.T) {
	text := strings.Repeat("import a;\nx;\n", 3)
	old, again := parsed(t, text), parsed(t, text)
	edits := list(edit(0, 0, ""))
	kept, _ := reparse.Kept(old, edits)
	parts, _ := reparse.Parts(old)
	pairs, _ := reparse.Match(old, old)
	if len(kept) != 4 || len(parts) != 6 || len(pairs) != 6 {
		t.Errorf("%v, %v, %v", kept, parts, pairs)
	}
	clear(kept)
	clear(parts)
	clear(pairs)
	if kept, e := reparse.Kept(old, edits); !slices.Equal(kept, list(4, 6, 8, 10)) || e != api.OK {
		t.Errorf("Kept again: %v, %d", kept, e)
	}
	if parts, e := reparse.Parts(old); !slices.Equal(parts, list(0, 2, 4, 6, 8, 10)) || e != api.OK {
		t.Errorf("Parts again: %v, %d", parts, e)
	}
	if pairs, e := reparse.Match(old, old); len(pairs) != 6 || pairs[5] != [2]int{10, 10} || e != api.OK {
		t.Errorf("Match again: %v, %d", pairs, e)
	}
	if !tree.Same(old, again) || edits[0] != edit(0, 0, "") {
		t.Errorf("an argument is changed: %s, %v", show(old), edits)
	}
}
