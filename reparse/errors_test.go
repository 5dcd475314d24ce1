package reparse_test

import (
	"slices"
	"strings"
	"testing"

	"marginalia/api"
	"marginalia/reparse"
	"marginalia/tree"
)

// notTrees returns Nodes that are not the trees of their strings.
func notTrees(t *testing.T) map[string]api.Node {
	t.Helper()
	loop := node(api.NdFile, node(api.NdMissing))
	loop.Kids[0] = loop
	deep := node(api.NdMissing)
	for range 10*api.MaxNest + 1 {
		deep = node(api.NdFile, deep)
	}
	other := parsed(t, "import a;")
	other.Kids[0].Kind = api.NdError
	cut := parsed(t, "import a; import b;")
	cut.Kids = append(cut.Kids, parsed(t, "x").Kids...)
	cut.Kids = append(cut.Kids, parsed(t, "y").Kids...)
	return map[string]api.Node{
		"a zero Node":                        {},
		"a leaf":                             leaf(api.TkSign, ";"),
		"a part alone":                       parsed(t, ";").Kids[0],
		"an unknown kind":                    node(99),
		"a negative kind":                    node(-1),
		"a token that is none":               node(api.NdFile, leaf(api.TkBlank, "x")),
		"a root with a token":                {Kind: api.NdFile, Token: api.Token{Kind: api.TkBlank, Text: " "}},
		"a solid leaf of the root":           node(api.NdFile, leaf(api.TkSign, ";")),
		"a part of another kind":             other,
		"two parts that would be one":        cut,
		"two blanks that would be one":       node(api.NdFile, leaf(api.TkBlank, " "), leaf(api.TkBlank, "\n")),
		"something missing that is not":      node(api.NdFile, node(api.NdMissing)),
		"a file in a file":                   node(api.NdFile, node(api.NdFile)),
		"a Node that holds itself":           loop,
		"a Node that is too deep":            deep,
		"a tree of a string a byte too long": node(api.NdFile, leaf(api.TkBlank, strings.Repeat(" ", api.MaxText+1))),
	}
}

// P7.1 to P7.3: a Node that is not the tree of its string is an error, the first one.
func TestNotTrees(t *testing.T) {
	right := parsed(t, "import a;")
	for what, n := range notTrees(t) {
		for _, edits := range [][]api.Edit{nil, list(edit(0, 0, "")), list(edit(-1, 5, "x")), make([]api.Edit, api.MaxEdits+1)} {
			if made, taken, e := reparse.Reparse(n, edits); !tree.Same(made, api.Node{}) || taken != 0 || e != api.ErrForm {
				t.Errorf("Reparse of %s with %d edits: %d, %d", what, len(edits), taken, e)
			}
			if kept, e := reparse.Kept(n, edits); len(kept) > 0 || e != api.ErrForm {
				t.Errorf("Kept of %s with %d edits: %v, %d", what, len(edits), kept, e)
			}
		}
		if parts, e := reparse.Parts(n); len(parts) > 0 || e != api.ErrForm {
			t.Errorf("Parts of %s: %v, %d", what, parts, e)
		}
		for _, pair := range [][2]api.Node{{n, right}, {right, n}, {n, n}} {
			if pairs, e := reparse.Match(pair[0], pair[1]); len(pairs) > 0 || e != api.ErrForm {
				t.Errorf("Match of %s: %v, %d", what, pairs, e)
			}
		}
	}
}

// P7.1, P7.2: the errors of edits are those of layer 1's Check, and come in its order.
func TestWrongEdits(t *testing.T) {
	full := strings.Repeat(" ", api.MaxText)
	long := strings.Repeat("x", api.MaxText)
	most := 1<<63 - 1
	for _, c := range []struct {
		what  string
		text  string
		edits []api.Edit
		want  api.Errno
	}{
		{"an edit after the end", "x;", list(edit(3, 3, "")), api.ErrArg},
		{"an edit over the end", "x;", list(edit(2, 3, "")), api.ErrArg},
		{"an edit before the beginning", "x;", list(edit(-1, 1, "")), api.ErrArg},
		{"an edit that ends before it begins", "x;", list(edit(2, 1, "")), api.ErrArg},
		{"edits that overlap", "x;", list(edit(0, 2, ""), edit(1, 2, "")), api.ErrArg},
		{"edits in falling order", "x;", list(edit(1, 2, ""), edit(0, 1, "")), api.ErrArg},
		{"the greatest numbers", "x;", list(edit(most, most, "")), api.ErrArg},
		{"the least numbers", "x;", list(edit(-most-1, -most-1, "")), api.ErrArg},
		{"the least and the greatest number", "x;", list(edit(-most-1, most, "")), api.ErrArg},
		{"an edit that is wrong, after one that is right", "x;", list(edit(0, 0, ""), edit(0, 3, "")), api.ErrArg},
		{"an edit that is wrong, of no string", "", list(edit(0, 1, "")), api.ErrArg},
		{"an edit too many", "x;", make([]api.Edit, api.MaxEdits+1), api.ErrLimit},
		{"an edit too many, and wrong ones", "x;", slices.Repeat(list(edit(-1, 3, "")), api.MaxEdits+1), api.ErrLimit},
		{"as many edits as there may be", "x;", make([]api.Edit, api.MaxEdits), api.OK},
		{"a string that becomes too long", full, list(edit(0, 0, "x")), api.ErrFull},
		{"a string that becomes too long, by several edits", "x;", list(edit(0, 0, long), edit(2, 2, "x")), api.ErrFull},
		{"a string that becomes too long, with a wrong edit at last", full, list(edit(0, 0, "x"), edit(0, api.MaxText+1, "")), api.ErrArg},
		{"a string that stays as long as it may be", full, list(edit(0, 1, "x")), api.OK},
	} {
		old := parsed(t, c.text)
		made, taken, e := reparse.Reparse(old, c.edits)
		if e != c.want || e != api.OK && (!tree.Same(made, api.Node{}) || taken != 0) {
			t.Errorf("Reparse with %s: %.100s, %d, %d, not %d", c.what, show(made), taken, e, c.want)
		}
		kept, e := reparse.Kept(old, c.edits)
		if e != c.want || e != api.OK && len(kept) > 0 {
			t.Errorf("Kept with %s: %v, %d, not %d", c.what, kept, e, c.want)
		}
	}
}
