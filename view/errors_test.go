package view_test

import (
	"strings"
	"testing"

	"marginalia/api"
	"marginalia/view"
)

// notTrees returns Nodes that are not the trees of their strings.
func notTrees(t *testing.T) map[string]api.Node {
	t.Helper()
	loop := node(api.NdFile, node(api.NdMissing))
	loop.Kids[0] = loop
	deep := node(api.NdMissing)
	for range 10*api.MaxNest + 1 {
		deep = node(api.NdFile, deep)
	}
	other := parsed(t, "import a;")
	other.Kids[0].Kind = api.NdError
	short := parsed(t, "def f() = 1;")
	short.Kids[0].Kids = short.Kids[0].Kids[:2]
	cut := parsed(t, "import a; import b;")
	cut.Kids = append(cut.Kids, parsed(t, "x").Kids...)
	cut.Kids = append(cut.Kids, parsed(t, "y").Kids...)
	return map[string]api.Node{
		"a zero Node":                        {},
		"a leaf":                             leaf(api.TkSign, ";"),
		"an unknown kind":                    node(99),
		"a negative kind":                    node(-1),
		"a token that is none":               node(api.NdFile, leaf(api.TkBlank, "x")),
		"a root with a token":                {Kind: api.NdFile, Token: api.Token{Kind: api.TkBlank, Text: " "}},
		"a solid leaf of the root":           node(api.NdFile, leaf(api.TkSign, ";")),
		"a part of another kind":             other,
		"a definition without its end":       short,
		"an empty definition":                node(api.NdFile, node(api.NdDef)),
		"two parts that would be one":        cut,
		"two blanks that would be one":       node(api.NdFile, leaf(api.TkBlank, " "), leaf(api.TkBlank, "\n")),
		"something missing that is not":      node(api.NdFile, node(api.NdMissing)),
		"a file in a file":                   node(api.NdFile, node(api.NdFile)),
		"a Node that holds itself":           loop,
		"a Node that is too deep":            deep,
		"a tree of a string a byte too long": node(api.NdFile, leaf(api.TkBlank, strings.Repeat(" ", api.MaxText+1))),
	}
}

// P8.1 to P8.3: a Node that is not the tree of its string is an error, as a whole and as an item.
func TestNotTrees(t *testing.T) {
	for what, n := range notTrees(t) {
		if m, e := view.Of(n); !isSame(m, api.Module{}) || e != api.ErrForm {
			t.Errorf("Of %s: %s, %d", what, show(m), e)
		}
		if m, e := view.Item(n); !isSame(m, api.Module{}) || e != api.ErrForm {
			t.Errorf("Item of %s: %s, %d", what, show(m), e)
		}
		if notes, e := view.Numbers(n); len(notes) > 0 || e != api.ErrForm {
			t.Errorf("Numbers of %s: %s, %d", what, showNotes(notes), e)
		}
	}
	for what, text := range map[string]string{"an item": "def f() = 1;", "an NdError": "x;", "trivia": "\n"} {
		part := parsed(t, text).Kids[0]
		if m, e := view.Of(part); !isSame(m, api.Module{}) || e != api.ErrForm {
			t.Errorf("Of %s alone: %s, %d", what, show(m), e)
		}
		if notes, e := view.Numbers(part); len(notes) > 0 || e != api.ErrForm {
			t.Errorf("Numbers of %s alone: %s, %d", what, showNotes(notes), e)
		}
	}
}

// P8.1: a string that is too long is an error, whatever is in it.
func TestTooLong(t *testing.T) {
	for _, text := range []string{strings.Repeat(" ", api.MaxText+1), "def f() = 1;" + strings.Repeat("\n", api.MaxText), strings.Repeat("\xff", api.MaxText+1)} {
		if m, e := view.Text(text); !isSame(m, api.Module{}) || e != api.ErrLimit {
			t.Errorf("Text of %d bytes: %s, %d", len(text), show(m), e)
		}
	}
}

// P8.2: what is no item, or not the only part of the tree of its own text.
func TestNotItems(t *testing.T) {
	long := "def f() = " + strings.Repeat("(", api.MaxText-10)
	missing := parsed(t, "def f() =\n").Kids[0]
	blank := missing
	blank.Kids = append(append([]api.Node(nil), missing.Kids...), leaf(api.TkBlank, "\n"))
	two := parsed(t, "import a; import b;").Kids
	inside := parsed(t, "def f() = g(1);").Kids[0]
	both := node(api.NdImport, append(append([]api.Node(nil), two[0].Kids...), two[2].Kids...)...)
	wide := parsed(t, long).Kids[0]
	wide.Kids = append(append([]api.Node(nil), wide.Kids...), leaf(api.TkBlank, " "))
	other := parsed(t, "import a;").Kids[0]
	other.Kind = api.NdDef
	before := parsed(t, "import a;").Kids[0]
	before.Kids = append(list(leaf(api.TkBlank, " ")), before.Kids...)
	for what, n := range map[string]api.Node{
		"a root":                              parsed(t, "import a;"),
		"an empty root":                       node(api.NdFile),
		"an NdError":                          parsed(t, "x;").Kids[0],
		"a blank":                             leaf(api.TkBlank, " "),
		"a remark":                            leaf(api.TkRemark, "//"),
		"a word":                              leaf(api.TkWord, "def"),
		"a body":                              inside.Kids[len(inside.Kids)-2],
		"parameters":                          inside.Kids[3],
		"something missing":                   node(api.NdMissing),
		"an item with trivia that is not its": blank,
		"an item with trivia before it":       before,
		"an item of another kind":             other,
		"two items in one":                    both,
		"an item a byte too long":             wide,
		"an item without anything":            node(api.NdImport),
		"an item with a token":                {Kind: api.NdImport, Token: api.Token{Kind: api.TkWord, Text: "import"}},
	} {
		if m, e := view.Item(n); !isSame(m, api.Module{}) || e != api.ErrForm {
			t.Errorf("Item of %s: %s, %d", what, show(m), e)
		}
	}
	if m, e := view.Item(parsed(t, long).Kids[0]); e != api.OK || len(m.Defs) != 1 {
		t.Errorf("Item of an item as long as may be: %d", e)
	}
}
