package relex

import (
	"slices"
	"testing"

	"marginalia/api"
	"marginalia/token"
)

// P4.1: what no edit meets is not scanned again, between two edits neither. It shows in no result, so the parts themselves are looked at.
func TestParts(t *testing.T) {
	text := "a b\nc d\ne f\ng h\n\ni"
	tokens, _ := token.Lex(text)
	for _, c := range []struct {
		what  string
		edits []api.Edit
		want  []part
	}{
		{"no edits", nil, nil},
		{"in the first line", []api.Edit{{From: 0, To: 1}}, []part{{0, 4}}},
		{"in the second line", []api.Edit{{From: 5, To: 5}}, []part{{3, 8}}},
		{"in the last line", []api.Edit{{From: 18, To: 18}}, []part{{15, 17}}},
		{"in the empty line", []api.Edit{{From: 16, To: 16}}, []part{{15, 16}}},
		{"two in one line", []api.Edit{{From: 4, To: 5}, {From: 6, To: 6}}, []part{{3, 8}}},
		{"two in neighbours", []api.Edit{{From: 4, To: 5}, {From: 8, To: 8}}, []part{{3, 12}}},
		{"two with a line between", []api.Edit{{From: 0, To: 1}, {From: 8, To: 8}}, []part{{0, 4}, {7, 12}}},
		{"in the first line and in the last one", []api.Edit{{From: 3, To: 3}, {From: 17, To: 18}}, []part{{0, 4}, {15, 17}}},
		{"two beside one blank", []api.Edit{{From: 14, To: 14}, {From: 17, To: 17}}, []part{{11, 17}}},
	} {
		if got := newSource(text, tokens).parts(c.edits); !slices.Equal(got, c.want) {
			t.Errorf("the parts of edits %s: %v, not %v", c.what, got, c.want)
		}
	}
}
