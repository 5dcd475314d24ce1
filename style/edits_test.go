package style_test

import (
	"slices"
	"testing"

	"marginalia/api"
	"marginalia/style"
)

// P9.2: each gap and each remark's end that is not as it must be has an edit of its own, of the shortest kind.
func TestEdits(t *testing.T) {
	for _, c := range []struct {
		text string
		want []api.Edit
	}{
		{"", nil},
		{" ", list(edit(0, 1, ""))},
		{"\n", list(edit(0, 1, ""))},
		{"import a;\n", nil},
		{"import a;", list(edit(9, 9, "\n"))},
		{" import a;\n", list(edit(0, 1, ""))},
		{"import a;\n\n\n", list(edit(10, 12, ""))},
		{"import  a;\n", list(edit(7, 8, ""))},
		{"import\ta;\n", list(edit(6, 7, " "))},
		{"import\t a;\n", list(edit(6, 7, ""))},
		{"import \t\n a;\n", list(edit(7, 10, ""))},
		{"import a ; \n", list(edit(8, 9, ""), edit(10, 11, ""))},
		{"import a; import b;\n", list(edit(9, 10, "\n"))},
		{"import a;import b;\n", list(edit(9, 9, "\n"))},
		{"import a;\n\n\n\nimport b;\n", list(edit(11, 13, ""))},
		{"import a;\ndef f() = 1;\n", list(edit(10, 10, "\n"))},
		{"import a; // r \t\n", list(edit(10, 10, " "), edit(14, 16, ""))},
		{"import a;  // r \n \n// s\r", list(edit(15, 16, ""), edit(17, 19, ""), edit(23, 24, ""), edit(24, 24, "\n"))},
		{"//\r\n", list(edit(2, 3, ""))},
		{"// \n\n", list(edit(2, 3, ""), edit(4, 5, ""))},
		{"def f( x )=x+1 ;def g()=f( 2 );", list(
			edit(6, 7, ""), edit(8, 9, ""), edit(10, 10, " "), edit(11, 11, " "), edit(12, 12, " "), edit(13, 13, " "), edit(14, 15, ""),
			edit(16, 16, "\n\n"), edit(23, 23, " "), edit(24, 24, " "), edit(26, 27, ""), edit(28, 29, ""), edit(31, 31, "\n"),
		)},
		{"def f() = match x {a => 1};\n", list(edit(19, 19, "\n  "), edit(25, 25, "\n"))},
		{"def f() = match x {\n a => 1 \n};\n", list(edit(21, 21, " "), edit(27, 28, ""))},
		{"def f() = match x {\n   a => 1\n   };\n", list(edit(22, 23, ""), edit(30, 33, ""))},
		{"def f() = match x {\n\ta => 1\n};\n", list(edit(20, 21, "  "))},
		{"\"a \n", nil},
		{"\"a \nx\n", nil},
		{"\"a \n\n\"b", list(edit(4, 5, ""), edit(7, 7, "\n"))},
	} {
		got, e := style.Edits(c.text)
		if !slices.Equal(got, c.want) || e != api.OK {
			t.Errorf("Edits of %q: %v, %d, not %v", c.text, got, e, c.want)
		}
		agreesAll(t, c.text)
	}
}

// P9.3: the edits that have a byte or an end in common with a span, or one of which is within the other.
func TestRange(t *testing.T) {
	text := "import   a; \nimport   b;"
	first, second, third, last := edit(7, 9, ""), edit(11, 12, ""), edit(20, 22, ""), edit(24, 24, "\n")
	if got, e := style.Edits(text); !slices.Equal(got, list(first, second, third, last)) || e != api.OK {
		t.Fatalf("Edits: %v, %d", got, e)
	}
	for _, c := range []struct {
		from, to int
		want     []api.Edit
	}{
		{0, 24, list(first, second, third, last)},
		{0, 0, nil},
		{0, 6, nil},
		{0, 7, list(first)},
		{7, 7, list(first)},
		{8, 8, list(first)},
		{9, 9, list(first)},
		{8, 9, list(first)},
		{9, 10, list(first)},
		{10, 10, nil},
		{10, 11, list(second)},
		{9, 11, list(first, second)},
		{8, 21, list(first, second, third)},
		{12, 12, list(second)},
		{13, 19, nil},
		{13, 20, list(third)},
		{22, 23, list(third)},
		{23, 23, nil},
		{23, 24, list(last)},
		{24, 24, list(last)},
	} {
		got, e := style.Range(text, api.Span{From: c.from, To: c.to})
		if !slices.Equal(got, c.want) || e != api.OK {
			t.Errorf("Range of %d, %d: %v, %d, not %v", c.from, c.to, got, e, c.want)
		}
	}
}

// P9.3: an edit that puts something inside of a span touches it, and so does an empty span inside of an edit.
func TestRangeInside(t *testing.T) {
	if got, e := style.Range("a=b\n", api.Span{From: 0, To: 3}); !slices.Equal(got, list(edit(1, 1, " "), edit(2, 2, " "))) || e != api.OK {
		t.Errorf("a span around edits: %v, %d", got, e)
	}
	if got, e := style.Range("a     b\n", api.Span{From: 4, To: 4}); !slices.Equal(got, list(edit(2, 6, ""))) || e != api.OK {
		t.Errorf("a span in an edit: %v, %d", got, e)
	}
}

// P9.4: two blanks for each match around what is next, but for its own brace at the end.
func TestIndent(t *testing.T) {
	text := "def f() = match x { // r\n a => match y { b => 1 } , c => 2\n }; // s\nimport a;"
	for _, c := range []struct{ from, to, want int }{
		{0, 18, 0},   // up to the first brace
		{19, 39, 2},  // from the remark after it to the inner brace
		{40, 46, 4},  // the inner case
		{47, 57, 2},  // the end of the inner match, and the second case
		{58, 79, 0},  // the end of the match, and all that follows
		{80, 100, 0}, // at the end there is nothing
	} {
		for offset := c.from; offset <= min(c.to, len(text)); offset++ {
			if got, e := style.Indent(text, offset); got != c.want || e != api.OK {
				t.Errorf("Indent at %d (%q): %d, %d, not %d", offset, text[offset:], got, e, c.want)
			}
		}
	}
	agreesAll(t, text)
}

// P9.4: of strings without things, and of matches that lack something.
func TestIndentOfParts(t *testing.T) {
	for _, c := range []struct {
		text   string
		offset int
		want   int
	}{
		{"", 0, 0},
		{" \n ", 1, 0},
		{"def f() = match x {", 18, 0},
		{"def f() = match x {", 19, 0},
		{"def f() = match x {\n", 20, 0},
		{"def f() = match x {\n//", 20, 2},
		{"def f() = match x {\n//", 21, 0},
		{"def f() = match x {\na", 20, 2},
		{"def f() = match x {\n}", 20, 0},
		{"def f() = match x {\n;", 20, 0},
		{"def f() = match x {\na => 1\n;", 27, 0},
		{"def f() = match x {\na => 1\n, ;", 27, 2},
		{"def f() = match x a => 1,\nb => 2 }", 26, 0},
		{"def f() = match x { a => match y {\n} }", 35, 2},
		{"def f() = match x { a => match y {\nb => 1 } }", 35, 4},
		{"x {\ny }", 4, 0},
	} {
		if got, e := style.Indent(c.text, c.offset); got != c.want || e != api.OK {
			t.Errorf("Indent of %q at %d: %d, %d, not %d", c.text, c.offset, got, e, c.want)
		}
	}
}
