package reparse_test

import (
	"math/rand"
	"slices"
	"strings"
	"testing"

	"marginalia/api"
	"marginalia/reparse"
	"marginalia/tree"
)

// P7.1, P7.2: the chapter's example.
func TestExample(t *testing.T) {
	text := "def f() = 1;\ndef g() = 2;\ndef h() = 3;\n"
	old := parsed(t, text)
	edits := list(edit(23, 24, "5"))
	if kept, e := reparse.Kept(old, edits); !slices.Equal(kept, list(0, 4)) || e != api.OK {
		t.Errorf("Kept: %v, %d", kept, e)
	}
	made, taken, e := reparse.Reparse(old, edits)
	if want := parsed(t, "def f() = 1;\ndef g() = 5;\ndef h() = 3;\n"); !tree.Same(made, want) || taken != 2 || e != api.OK {
		t.Errorf("Reparse: %s, %d, %d", show(made), taken, e)
	}
}

// P7.2: Parts by example.
func TestParts(t *testing.T) {
	for _, c := range []struct {
		text string
		want []int
	}{
		{"", nil},
		{" // r\n", nil},
		{"import a;", list(0)},
		{";;;", list(0, 1, 2)},
		{" import a ; type T = A;\n\nx;y def f() = 1 ", list(1, 3, 5, 6, 8)},
		{"import // r\n def // s\n", list(0, 4)},
		{"def f // r\n def // s\n", list(0, 1)},
		{"# \"a\n\"b", list(0)},
	} {
		old := parsed(t, c.text)
		if want := modelParts(old); !slices.Equal(want, c.want) {
			t.Errorf("the model of Parts of the tree of %s: %v, not %v", short(c.text), want, c.want)
		}
		if got, e := reparse.Parts(old); !slices.Equal(got, c.want) || e != api.OK {
			t.Errorf("Parts of the tree of %s: %v, %d, not %v", short(c.text), got, e, c.want)
		}
	}
	someEdits(1000, func(_ *rand.Rand, text string, _ []api.Edit) {
		old := parsed(t, text)
		if got, e := reparse.Parts(old); !slices.Equal(got, modelParts(old)) || e != api.OK {
			t.Errorf("Parts of the tree of %s: %v, %d, not %v", short(text), got, e, modelParts(old))
		}
	})
}

// P7.2: where the spans begin and end whose edits make a part fresh. In the string, which is cut at the marks, an empty edit at an offset leaves a part as it is before the first mark and after the second one.
func TestWhereFresh(t *testing.T) {
	for _, c := range []struct {
		what string
		text string // a mark at each end of the span
		part int    // its index among the root's kids
	}{
		{"an item alone", "|import a;|", 0},
		{"an item with trivia around it", "| import a; |", 1},
		{"an item in the second line", " \n|  import a;|", 1},
		{"an item that begins after a remark", "import b; // r\n|\t import a;|", 4},
		{"an item after another one in its line", "import b;\n|import b; import a;|", 4},
		{"an item before a token", "|import a; x|", 0},
		{"an item before two tokens", "|import a; x |y z", 0},
		{"an item before two tokens, the second one in another line", "|import a; // r\n def // s\n|f // t\n", 0},
		{"an item before two tokens side by side", "|import a;#|&& &&", 0},
		{"an item before an item", "|import a;\nimport |b;\nimport c;", 0},
		{"an item of many lines", ";\n|def f(\n) = 1 +\n2;\n\n;\n|;\n;", 2},
		{"an item that ends with trivia", ";\n|def f // r\n def |g() = 1;", 2},
		{"an item without its end", ";\n|def f() = 1 x |y", 2},
		{"an NdError alone", "|x|", 0},
		{"an NdError at the beginning", "| \n// r\n x; y |z", 3},
		{"an NdError after an item in its line", ";\n|import a; x; y |z", 4},
		{"an NdError after an item in the line before", ";\n|import a;\nx; y |z", 4},
		{"an NdError some lines after an item", ";\n|import a; // s\n\n // t\n x;\ny |z", 8},
		{"an NdError at the end of an item of some lines", ";\nimport\na\n // r\n\n|\t;# // s\n\n x;\ny |z", 3},
		{"an NdError after an item of some lines", ";\n;\nimport\n|a;\n\n x;\ny |z", 6},
		{"an NdError after an NdError", ";\n;\n|x;\ny;\n;\n|;", 6},
		{"an NdError in a line with those before it", ";\n;\n|;;;;|;;;", 6},
		{"an NdError before an item", "|x def |f() = 1;", 0},
		{"an NdError after an item without its end", "import b;\n|import a x; y |z", 4},
	} {
		from := strings.Index(c.text, "|")
		text := strings.ReplaceAll(c.text, "|", "")
		to := strings.LastIndex(c.text, "|") - 1
		old := parsed(t, text)
		if old.Kids[c.part].Kind == api.NdToken {
			t.Fatalf("%s: %d is trivia", c.what, c.part)
		}
		for at := range len(text) + 1 {
			for end := at; end <= len(text); end++ {
				edits := list(edit(at, end, "x"))
				want := end < from || at > to
				kept, e := reparse.Kept(old, edits)
				if e != api.OK || slices.Contains(kept, c.part) != want {
					t.Errorf("%s: with %v kept are %v, %d", c.what, edits, kept, e)
				}
				agrees(t, text, edits...)
			}
		}
	}
}

// P7.2: an NdError is fresh if the part before it is, and does not end with a `;`.
func TestGoesOn(t *testing.T) {
	for _, c := range []struct {
		what string
		text string
		at   int
		want []int
	}{
		{"an item without its end is fresh", "def f(\n)\n=\n1\nx;\ny;\nz;\n", 4, list(4, 6)},
		{"an item with its end is fresh", "def f(\n)\n=\n1;\nx;\ny;\nz;\n", 4, list(2, 4, 6)},
		{"an item without its end is kept", "import a;\n\ndef f(\n)\n=\n1\nx;\ny;\nz;\n", 2, list(2, 4, 6, 8)},
		{"an item after an item without its end", "def f(\n)\n=\n1\nimport a;\n;\n", 4, list(2, 4)},
		{"an item without its end, after one, and an NdError", "def f(\n)\n=\n1\nimport a\n;\n=\n;", 4, list(2, 4)},
		{"an NdError without its end is fresh, and an item", "x\nx\nx\nimport a;\n;\n;\n", 0, list(2, 4, 6)},
	} {
		old := parsed(t, c.text)
		edits := list(edit(c.at, c.at, ""))
		if want := modelKept(old, edits); !slices.Equal(want, c.want) {
			t.Errorf("%s: the model has %v, not %v", c.what, want, c.want)
		}
		if kept, e := reparse.Kept(old, edits); !slices.Equal(kept, c.want) || e != api.OK {
			t.Errorf("%s: %v, %d, not %v", c.what, kept, e, c.want)
		}
		agrees(t, c.text, edits...)
	}
}

// P7.1, P7.2: no edits, empty ones, and several.
func TestEdits(t *testing.T) {
	text := "import a;\n\ndef f() = 1;\n\ndef g() = 2;\n\ndef h() = 3;\n\nx;\n"
	for _, c := range []struct {
		what  string
		edits []api.Edit
		want  []int
	}{
		{"no edits", nil, list(0, 2, 4, 6, 8)},
		{"an empty list", list[api.Edit](), list(0, 2, 4, 6, 8)},
		{"an edit that changes nothing", list(edit(30, 30, "")), list(0, 2, 6, 8)},
		{"an edit that puts what was there", list(edit(32, 35, " = ")), list(0, 2, 6, 8)},
		{"two edits", list(edit(9, 11, "\n"), edit(54, 54, " ")), list(4)},
		{"two edits at one offset", list(edit(30, 30, "x"), edit(30, 30, "y")), list(0, 2, 6, 8)},
		{"an edit between two parts", list(edit(24, 24, "import b;\n")), list(0, 4, 6, 8)},
		{"all", list(edit(0, len(text), text)), nil},
	} {
		if kept, e := reparse.Kept(parsed(t, text), c.edits); !slices.Equal(kept, c.want) || e != api.OK {
			t.Errorf("%s: kept are %v, %d, not %v", c.what, kept, e, c.want)
		}
		agrees(t, text, c.edits...)
	}
	agrees(t, "")
	agrees(t, "", edit(0, 0, ""))
	agrees(t, "", edit(0, 0, text))
	agrees(t, "\n", edit(0, 1, ""))
}

// P7.1, P7.2, P7.4, P7.5: all short strings with one edit, and random ones with several, against the models.
func TestAgainstModels(t *testing.T) {
	all(list("def", "\ndef", ";", "x ", "#", "&&", "\"", "\n"), 3, func(text string) {
		if len(text) < 9 {
			eachEdit(text, list("", "&", "\n", ";"), func(e api.Edit) { agrees(t, text, e) })
		}
	})
	someEdits(5000, func(_ *rand.Rand, text string, edits []api.Edit) { agrees(t, text, edits...) })
}

// P7.1, P7.2: as much as the limits let in.
func TestLimits(t *testing.T) {
	full := strings.Repeat(";", api.MaxText)
	old := parsed(t, full)
	if parts, e := reparse.Parts(old); len(parts) != api.MaxText || e != api.OK {
		t.Errorf("Parts of a full string: %d, %d", len(parts), e)
	}
	many := slices.Repeat(list(edit(5000, 5001, "x"), edit(15000, 15000, "")), api.MaxEdits/2)
	slices.SortFunc(many, func(a, b api.Edit) int { return a.From - b.From })
	for i := range api.MaxEdits / 2 {
		many[i] = edit(5000+i, 5001+i, "x")
	}
	for _, edits := range [][]api.Edit{nil, list(edit(10000, 10001, "x")), many, list(edit(0, api.MaxText, ""))} {
		made, taken, e := reparse.Reparse(old, edits)
		kept, _ := reparse.Kept(old, edits)
		if !tree.Same(made, parsed(t, modelApply(full, edits))) || taken < len(kept) || e != api.OK {
			t.Errorf("Reparse of a full string with %v: %d, %d", edits, taken, e)
		}
	}
	lines := strings.Repeat("def f() = 1;\n", api.MaxText/13)
	old = parsed(t, lines)
	made, taken, e := reparse.Reparse(old, list(edit(10000, 10000, "2")))
	if !tree.Same(made, parsed(t, lines[:10000]+"2"+lines[10000:])) || taken < api.MaxText/13-3 || e != api.OK {
		t.Errorf("Reparse of many lines: %d, %d", taken, e)
	}
	made, taken, e = reparse.Reparse(parsed(t, ""), list(edit(0, 0, full)))
	if !tree.Same(made, parsed(t, full)) || taken != 0 || e != api.OK {
		t.Errorf("Reparse of nothing: %d, %d", taken, e)
	}
}
