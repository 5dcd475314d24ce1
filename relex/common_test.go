package relex_test

import (
	"math/rand"
	"slices"
	"testing"

	"marginalia/api"
	"marginalia/relex"
)

// holdCommon holds Common of two lists against the numbers that it is to return.
func holdCommon(t *testing.T, a, b []api.Token, first, last int) {
	t.Helper()
	beforeA, beforeB := slices.Clone(a), slices.Clone(b)
	if f, l, e := relex.Common(a, b); f != first || l != last || e != api.OK {
		t.Errorf("Common of %s and %s: %d, %d, %d, not %d, %d", show(a), show(b), f, l, e, first, last)
	}
	if !slices.Equal(a, beforeA) || !slices.Equal(b, beforeB) {
		t.Errorf("Common of %s and %s changes its arguments", show(beforeA), show(beforeB))
	}
}

// P4.2: by example.
func TestCommon(t *testing.T) {
	x, y, z := name("x"), sign("y"), api.Token{}
	for _, c := range []struct {
		a, b        []api.Token
		first, last int
	}{
		{nil, nil, 0, 0},
		{nil, list(x), 0, 0},
		{list(x), nil, 0, 0},
		{list(x), list(x), 1, 0},
		{list(x), list(y), 0, 0},
		{list(x, y, z), list(x, y, z), 3, 0},
		{list(x, y, z), list(x, z), 1, 1},
		{list(x, z), list(x, y, z), 1, 1},
		{list(x, y, z), list(y, z), 0, 2},
		{list(x, y, z), list(x, y), 2, 0},
		{list(x, x), list(x, x, x), 2, 0},
		{list(x, x, x), list(x, x), 2, 0},
		{list(x, y, x), list(x), 1, 0},
		{list(x, y, x), list(x, y, x, y, x), 3, 0},
		{list(y, x), list(x), 0, 1},
		{list(x, y, x), list(y, y, y), 0, 0},
		{list(y, y, y), list(x, y, x), 0, 0},
		{list(x, y, x), list(y, y, x), 0, 2},
		{list(name("a")), list(sign("a")), 0, 0},
		{list(name("a")), list(name("b")), 0, 0},
		{list(z, z), list(z), 1, 0},
		{list(name("a"), name("a")), list(name("a")), 1, 0},
	} {
		holdCommon(t, c.a, c.b, c.first, c.last)
	}
}

// P4.2: lists of all lengths up to four, of two tokens that may stand nowhere side by side, against the model.
func TestCommonAgainstModel(t *testing.T) {
	var lists [][]api.Token
	all(list("x", "y"), 4, func(s string) {
		var tokens []api.Token
		for i := range s {
			tokens = append(tokens, name(s[i:i+1]))
		}
		lists = append(lists, tokens)
	})
	for _, a := range lists {
		for _, b := range lists {
			first, last := modelCommon(a, b)
			holdCommon(t, a, b, first, last)
		}
	}
}

// P4.2: of the lists before and after edits, against the model and against what Relex takes over.
func TestCommonOfEdited(t *testing.T) {
	someEdits(3000, func(_ *rand.Rand, text string, edits []api.Edit) {
		old := lex(t, text)
		made, taken, end, _ := relex.Relex(old, edits)
		first, last := modelCommon(old, made)
		holdCommon(t, old, made, first, last)
		if taken > first || taken+end > first+last {
			t.Errorf("of %q with %v %d and %d are taken over, %d and %d common", text, edits, taken, end, first, last)
		}
	})
}

// P4.2: the limit, of both lists.
func TestCommonLimit(t *testing.T) {
	full := slices.Repeat(list(sign("(")), api.MaxTokens)
	long := append(slices.Clone(full), sign("("))
	holdCommon(t, full, full, api.MaxTokens, 0)
	holdCommon(t, full, full[1:], api.MaxTokens-1, 0)
	holdCommon(t, full, append(list(sign(")")), full[1:]...), 0, api.MaxTokens-1)
	holdCommon(t, make([]api.Token, api.MaxTokens), nil, 0, 0)
	for _, c := range [][2][]api.Token{{long, long}, {long, full}, {full, long}, {long, nil}, {nil, long}} {
		if first, last, e := relex.Common(c[0], c[1]); first != 0 || last != 0 || e != api.ErrLimit {
			t.Errorf("Common of %d and %d tokens: %d, %d, %d", len(c[0]), len(c[1]), first, last, e)
		}
	}
}
