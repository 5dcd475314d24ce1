package reparse

import (
	"testing"

	"marginalia/api"
	"marginalia/parse"
	"marginalia/token"
	"marginalia/tree"
)

// P7.1: what is kept is not parsed again. It shows in no result, so a part is kept of which the tree can be told from what a parser makes.
func TestTakenOver(t *testing.T) {
	text := "import a;\nimport b;\nimport c;"
	tokens, _ := token.Lex(text)
	mark := api.Node{Kind: api.NdError, Kids: []api.Node{{Kind: api.NdMissing}}}
	want, _, _ := parse.Parse(text)
	want.Kids[2] = mark
	made := join(tokens, func(begin int) (part, bool) {
		if begin != 10 {
			return part{}, false
		}
		return part{node: mark, begin: 10, width: 9, leaves: 4}, true
	})
	if !tree.Same(made, want) {
		t.Errorf("%v", made)
	}
}
