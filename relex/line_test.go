package relex_test

import (
	"math/rand"
	"slices"
	"strings"
	"testing"

	"marginalia/api"
	"marginalia/relex"
)

// holdLine holds Line of a string's tokens against the number that it is to return.
func holdLine(t *testing.T, want int, text string, edits ...api.Edit) {
	t.Helper()
	old := lex(t, text)
	tokens, given := slices.Clone(old), slices.Clone(edits)
	if count, e := relex.Line(tokens, given); count != want || e != api.OK {
		t.Errorf("Line of %.60q with %v: %d, %d, not %d", text, edits, count, e, want)
	}
	if !slices.Equal(tokens, old) || !slices.Equal(given, edits) {
		t.Errorf("Line of %.60q with %v changes its arguments", text, edits)
	}
}

// P4.3: by example.
func TestLine(t *testing.T) {
	text := "ab\ncde\n\nf"
	for _, c := range []struct {
		what  string
		want  int
		edits []api.Edit
	}{
		{"no edits", 0, nil},
		{"in the first line", 4, list(edit(1, 1, "x"))},
		{"in the second line", 4, list(edit(4, 5, "x"))},
		{"in the empty line", 3, list(edit(7, 7, "xy"))},
		{"in the last line, without a line feed", 3, list(edit(8, 8, "xy"))},
		{"at the end", 2, list(edit(9, 9, "x"))},
		{"the last line taken away", 0, list(edit(8, 9, ""))},
		{"nothing put in the empty line", 1, list(edit(7, 7, ""))},
		{"nothing put in the last line", 1, list(edit(9, 9, ""))},
		{"at the end of the first line", 4, list(edit(2, 2, "x"))},
		{"at the beginning of the second line", 5, list(edit(3, 3, "x"))},
		{"a line feed put in a line", 5, list(edit(4, 4, "\n"))},
		{"a line feed put at a line's end", 5, list(edit(6, 6, "\n"))},
		{"a line feed put at a line's beginning", 5, list(edit(3, 3, "\n"))},
		{"a line feed put at the end", 2, list(edit(9, 9, "\n"))},
		{"a line feed taken away", 6, list(edit(2, 3, ""))},
		{"lines put", 8, list(edit(4, 5, "x\ny\nz"))},
		{"two in one line", 5, list(edit(3, 4, ""), edit(5, 5, "xy"))},
		{"two in two lines", 8, list(edit(0, 1, "x"), edit(3, 3, "y"))},
		{"two in lines that are apart", 6, list(edit(0, 1, "x"), edit(9, 9, "yz"))},
		{"two that meet in one line", 10, list(edit(1, 1, "x\ny"), edit(3, 6, "zzz"))},
		{"two at one offset", 6, list(edit(4, 4, "\n"), edit(4, 4, "x"))},
		{"a line feed between two taken away", 5, list(edit(0, 1, ""), edit(2, 3, ""))},
		{"all", 3, list(edit(0, 9, "x\ny"))},
		{"all taken away", 0, list(edit(0, 9, ""))},
	} {
		if got := modelLine(text, c.edits); got != c.want {
			t.Errorf("the model of %s: %d, not %d", c.what, got, c.want)
		}
		holdLine(t, c.want, text, c.edits...)
	}
	holdLine(t, 0, "")
	holdLine(t, 0, "", edit(0, 0, ""))
	holdLine(t, 3, "", edit(0, 0, "a\nb"))
	holdLine(t, 3, "", edit(0, 0, "a"), edit(0, 0, "\n"), edit(0, 0, "b"))
	holdLine(t, 2, "\n", edit(0, 0, "a"))
	holdLine(t, 1, "\n", edit(1, 1, "a"))
	holdLine(t, 1, "\r", edit(1, 1, ""))
}

// P4.3: all short strings with one edit, and random ones with several, against the model.
func TestLineAgainstModel(t *testing.T) {
	news := strings.Split(",\n,a,a\n,\na,a\nb", ",")
	all(strings.Split("\n a", ""), 4, func(text string) {
		eachEdit(text, news, func(e api.Edit) { holdLine(t, modelLine(text, list(e)), text, e) })
	})
	someEdits(10000, func(_ *rand.Rand, text string, edits []api.Edit) {
		holdLine(t, modelLine(text, edits), text, edits...)
	})
}

// P4.3: as much as the limits let in.
func TestLineLimits(t *testing.T) {
	full := strings.Repeat("((((\n", api.MaxText/5)
	holdLine(t, 0, full)
	holdLine(t, 5, full, edit(7, 8, ")"))
	holdLine(t, api.MaxText, full, edit(0, api.MaxText, strings.Repeat("a", api.MaxText)))
	holdLine(t, api.MaxText, "", edit(0, 0, full))
	holdLine(t, 1, "a", tooMany[1:]...)
	holdLine(t, 10, "\n0123456789", slices.Repeat(list(edit(5, 5, "")), api.MaxEdits)...)
}

// P4.3: the errors are those of Relex.
func TestLineErrors(t *testing.T) {
	for _, c := range wrong {
		if count, e := relex.Line(c.tokens, c.edits); count != 0 || e != c.want {
			t.Errorf("Line of %s: %d, %d, not %d", c.what, count, e, c.want)
		}
	}
}
