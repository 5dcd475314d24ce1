package parse_test

import (
	"math/rand"
	"slices"
	"strings"
	"testing"

	"marginalia/api"
	"marginalia/parse"
	"marginalia/token"
	"marginalia/tree"
)

// P6.1, P6.3: a string as long as it may be, and one that is longer.
func TestTooLong(t *testing.T) {
	full := "import a;" + strings.Repeat(" ", api.MaxText-9)
	if n, notes, e := parse.Parse(full); show(n) != "File[Import[import ~ a ;] ~]" || len(notes) > 0 || e != api.OK || !parse.Good(full) {
		t.Errorf("a string as long as it may be: %s, %s, %d", show(n), showNotes(notes), e)
	}
	for _, long := range []string{full + " ", full + "#", strings.Repeat("x ", api.MaxText)} {
		if n, notes, e := parse.Parse(long); !tree.Same(n, api.Node{}) || len(notes) > 0 || e != api.ErrLimit || parse.Good(long) {
			t.Errorf("a string that is too long: %.100s, %d", show(n), e)
		}
	}
	if full := strings.Repeat("#", api.MaxText); parse.Good(full) {
		t.Error("a bad string as long as it may be is good")
	}
}

// P6.1: Tree's errors are layer 3's, and come in its order.
func TestTreeErrors(t *testing.T) {
	small := func(s string) api.Token { return api.Token{Kind: api.TkName, Text: s} }
	semicolon := api.Token{Kind: api.TkSign, Text: ";"}
	long := strings.Repeat("a", api.MaxText)
	for _, c := range []struct {
		what   string
		tokens []api.Token
		want   api.Errno
	}{
		{"no tokens", nil, api.OK},
		{"an empty list", list[api.Token](), api.OK},
		{"as many tokens as there may be", slices.Repeat(list(semicolon), api.MaxTokens), api.OK},
		{"a token as long as it may be", list(small(long)), api.OK},
		{"a token too many", slices.Repeat(list(semicolon), api.MaxTokens+1), api.ErrLimit},
		{"an empty token too many", make([]api.Token, api.MaxTokens+1), api.ErrLimit},
		{"a byte too many", list(small(long), semicolon), api.ErrLimit},
		{"a byte too many, of tokens that are none", list(api.Token{Kind: api.TkWord, Text: long}, semicolon), api.ErrLimit},
		{"a token of a wrong kind", list(api.Token{Kind: api.TkWord, Text: "x"}), api.ErrForm},
		{"a word as a name", list(small("def")), api.ErrForm},
		{"an empty token", list(small("x"), api.Token{}), api.ErrForm},
		{"two tokens that would be one", list(small("x"), small("y")), api.ErrForm},
		{"two tokens in one", list(small("x;")), api.ErrForm},
	} {
		before := slices.Clone(c.tokens)
		n, e := parse.Tree(c.tokens)
		if text, textError := token.Text(c.tokens); e != c.want || e != textError {
			t.Errorf("Tree of %s: %d, not %d", c.what, e, c.want)
		} else if want, _ := modelParse(text); e == api.OK && !tree.Same(n, want) {
			t.Errorf("Tree of %s: %.200s", c.what, show(n))
		}
		if e != api.OK && !tree.Same(n, api.Node{}) {
			t.Errorf("Tree of %s: an error, and %.200s", c.what, show(n))
		}
		if !slices.Equal(c.tokens, before) {
			t.Errorf("Tree of %s changes its argument", c.what)
		}
	}
}

// isTree holds IsTree of a Node, and that Notes and Items refuse just what is no tree.
func isTree(t *testing.T, what string, n api.Node, want bool) {
	t.Helper()
	if got := parse.IsTree(n); got != want {
		t.Errorf("%s: IsTree is %v", what, got)
	}
	code := api.ErrForm
	if want {
		code = api.OK
	}
	if notes, e := parse.Notes(n); e != code || !want && len(notes) > 0 {
		t.Errorf("%s: Notes is %s, %d", what, showNotes(notes), e)
	}
	if items, e := parse.Items(n); e != code || !want && len(items) > 0 {
		t.Errorf("%s: Items is %v, %d", what, items, e)
	}
}

func node(kind int, kids ...api.Node) api.Node { return api.Node{Kind: kind, Kids: kids} }

func leaf(kind int, text string) api.Node {
	return api.Node{Kind: api.NdToken, Token: api.Token{Kind: kind, Text: text}}
}

// P6.2, P6.3: Nodes that are trees, and such as are not.
func TestIsTree(t *testing.T) {
	word, blank, name, semicolon := leaf(api.TkWord, "import"), leaf(api.TkBlank, " "), leaf(api.TkName, "a"), leaf(api.TkSign, ";")
	missing := node(api.NdMissing)
	empty := []api.Node{}
	right := node(api.NdImport, word, blank, name, semicolon)
	leafWithList := name
	leafWithList.Kids = empty
	loop := node(api.NdFile, missing)
	loop.Kids[0] = loop
	deep := missing
	for range 1000 {
		deep = node(api.NdFile, deep)
	}
	for _, c := range []struct {
		what string
		n    api.Node
		want bool
	}{
		{"an empty file", node(api.NdFile), true},
		{"an empty file with an empty list", api.Node{Kind: api.NdFile, Kids: empty}, true},
		{"an import", node(api.NdFile, right), true},
		{"an import, with an empty list in a leaf", node(api.NdFile, node(api.NdImport, word, blank, leafWithList, semicolon)), true},
		{"an import between blanks", node(api.NdFile, blank, right, blank), true},
		{"an import without its end", node(api.NdFile, node(api.NdImport, word, blank, name, missing)), true},
		{"an error", node(api.NdFile, node(api.NdError, name)), true},
		{"the zero Node", api.Node{}, false},
		{"an item alone", right, false},
		{"a leaf alone", name, false},
		{"NdMissing alone", missing, false},
		{"another kind of root", node(api.NdError, right), false},
		{"another kind of item", node(api.NdFile, node(api.NdDef, word, blank, name, semicolon)), false},
		{"leaves without an item", node(api.NdFile, word, blank, name, semicolon), false},
		{"an error without its node", node(api.NdFile, name), false},
		{"a node too many", node(api.NdFile, node(api.NdImport, word, blank, node(api.NdName, name), semicolon)), false},
		{"an empty node too many", node(api.NdFile, node(api.NdImport, word, blank, name, semicolon, node(api.NdError))), false},
		{"NdMissing too much", node(api.NdFile, right, missing), false},
		{"no NdMissing", node(api.NdFile, node(api.NdImport, word, blank, name)), false},
		{"NdMissing before a blank", node(api.NdFile, node(api.NdImport, word, missing, blank), node(api.NdError, name)), false},
		{"a blank in an item that is before it", node(api.NdFile, node(api.NdImport, blank, word, blank, name, semicolon)), false},
		{"a blank in an item that is after it", node(api.NdFile, node(api.NdImport, word, blank, name, semicolon, blank)), false},
		{"a wrong token", node(api.NdFile, node(api.NdImport, leaf(api.TkName, "import"), blank, name, semicolon)), false},
		{"two tokens that would be one", node(api.NdFile, node(api.NdImport, word, name, semicolon)), false},
		{"two blanks that would be one", node(api.NdFile, blank, blank), false},
		{"a file in a file", node(api.NdFile, node(api.NdFile)), false},
		{"a leaf that is empty", node(api.NdFile, leaf(api.TkName, "")), false},
		{"an unknown kind", node(29), false},
		{"a root with a token", api.Node{Kind: api.NdFile, Token: name.Token}, false},
		{"as long as it may be", node(api.NdFile, leaf(api.TkBlank, strings.Repeat(" ", api.MaxText))), true},
		{"an error as long as it may be", node(api.NdFile, node(api.NdError, leaf(api.TkName, strings.Repeat("a", api.MaxText)))), true},
		{"a leaf too long", node(api.NdFile, leaf(api.TkBlank, strings.Repeat(" ", api.MaxText+1))), false},
		{"leaves too long together", node(api.NdFile, leaf(api.TkBlank, strings.Repeat(" ", api.MaxText)), node(api.NdError, name)), false},
		{"too deep", deep, false},
		{"a Node that holds itself", loop, false},
	} {
		isTree(t, c.what, c.n, c.want)
	}
}

// P6.2: trees in which something was changed by chance are none any more, unless nothing was.
func TestIsTreeOfChanged(t *testing.T) {
	by := list(node(api.NdMissing), node(api.NdError), node(api.NdName), leaf(api.TkName, "a"), leaf(api.TkBlank, " "), leaf(api.TkSign, ";"), leaf(api.TkInt, "1"), node(api.NdName, leaf(api.TkName, "f")))
	trees := 0
	hold := func(r *rand.Rand, text string) {
		n, _ := parsed(t, text)
		all, _ := tree.All(n, 1+r.Intn(api.NdMissing))
		if len(all) == 0 {
			return
		}
		at := all[r.Intn(len(all))]
		old, _ := tree.At(n, at)
		other := by[r.Intn(len(by))]
		if r.Intn(2) == 0 && old.Kind != api.NdToken {
			other = old
			other.Kids = slices.Clone(old.Kids)
			if i := r.Intn(len(other.Kids) + 1); i < len(other.Kids) {
				other.Kids = slices.Delete(other.Kids, i, i+1)
			}
		}
		changed, e := tree.Put(n, at, other)
		if e != api.OK {
			return
		}
		s, _ := tree.Text(changed)
		model, _ := modelParse(s)
		want := tree.Same(model, changed)
		if want {
			trees++
		}
		isTree(t, show(changed), changed, want)
	}
	someSources(1000, hold)
	someMess(1000, hold)
	if trees < 50 || trees > 1000 {
		t.Errorf("%d of 2000 are trees", trees)
	}
}
