package style_test

import (
	"slices"
	"strings"
	"testing"

	"marginalia/api"
	"marginalia/style"
)

const most = 1<<63 - 1

// fails holds all functions that have the same errors against the one that is wanted, with nothing else.
func fails(t *testing.T, what, text string, want api.Errno) {
	t.Helper()
	if got, e := style.Style(text); got != "" || e != want {
		t.Errorf("Style of %s: %s, %d, not %d", what, short(got), e, want)
	}
	if got, e := style.Edits(text); len(got) > 0 || e != want {
		t.Errorf("Edits of %s: %v, %d, not %d", what, got, e, want)
	}
	for _, s := range list(api.Span{}, api.Span{To: len(text)}, api.Span{From: len(text), To: len(text)}) {
		if got, e := style.Range(text, s); len(got) > 0 || e != want {
			t.Errorf("Range of %s at %v: %v, %d, not %d", what, s, got, e, want)
		}
	}
}

// P9.1 to P9.4: a string that is too long is the first error of all.
func TestTooLong(t *testing.T) {
	for _, text := range list(strings.Repeat(" ", api.MaxText+1), strings.Repeat("x", api.MaxText+1), strings.Repeat("a;", api.MaxText), "// "+strings.Repeat("\xff", api.MaxText)) {
		fails(t, "a string too long", text, api.ErrLimit)
		if is, e := style.IsStyled(text); is || e != api.ErrLimit {
			t.Errorf("IsStyled of %s: %t, %d", short(text), is, e)
		}
		for _, offset := range list(0, -1, len(text), len(text)+1, most, -most-1) {
			if got, e := style.Indent(text, offset); got != 0 || e != api.ErrLimit {
				t.Errorf("Indent of %s at %d: %d, %d", short(text), offset, got, e)
			}
			if got, e := style.Range(text, api.Span{From: offset}); len(got) > 0 || e != api.ErrLimit {
				t.Errorf("Range of %s at %d: %v, %d", short(text), offset, got, e)
			}
		}
	}
}

// P9.1, P9.2: the longest strings: what would be longer in good style is an error, but IsStyled says that it is not its own.
func TestLongest(t *testing.T) {
	long := "//" + strings.Repeat("x", api.MaxText-3)
	name := strings.Repeat("x", api.MaxText-1)
	for _, c := range []struct {
		what, text, want string
		edits            []api.Edit
	}{
		{"blanks", strings.Repeat(" ", api.MaxText), "", list(edit(0, api.MaxText, ""))},
		{"a remark that fits", long, long + "\n", list(edit(api.MaxText-1, api.MaxText-1, "\n"))},
		{"a remark with its line feed", long + "\n", long + "\n", nil},
		{"a remark with a blank at its end", long + " ", long + "\n", list(edit(api.MaxText-1, api.MaxText, ""), edit(api.MaxText, api.MaxText, "\n"))},
		{"a name that fits", name, name + "\n", list(edit(api.MaxText-1, api.MaxText-1, "\n"))},
	} {
		if got, e := style.Style(c.text); got != c.want || e != api.OK {
			t.Errorf("Style of %s: %s, %d", c.what, short(got), e)
		}
		if is, e := style.IsStyled(c.text); is != (c.want == c.text) || e != api.OK {
			t.Errorf("IsStyled of %s: %t, %d", c.what, is, e)
		}
		if edits, e := style.Edits(c.text); !slices.Equal(edits, c.edits) || e != api.OK {
			t.Errorf("Edits of %s: %v, %d", c.what, edits, e)
		}
	}
	for what, text := range map[string]string{
		"a remark":        long + "x",
		"a name":          name + "x",
		"signs":           strings.Repeat("*", api.MaxText/2+1),
		"a call":          "def f() = g(" + strings.Repeat("x", api.MaxText-14) + ");",
		"a line too many": ";" + name,
	} {
		fails(t, what+" that is too long", text, api.ErrFull)
		if is, e := style.IsStyled(text); is || e != api.OK {
			t.Errorf("IsStyled of %s that is too long: %t, %d", what, is, e)
		}
	}
	signs := strings.Repeat("* ", api.MaxText/2-1) + "*\n"
	if got, e := style.Style(strings.Repeat("*", api.MaxText/2)); got != signs || e != api.OK {
		t.Errorf("Style of signs: %s, %d", short(got), e)
	}
	if is, e := style.IsStyled(signs); !is || e != api.OK {
		t.Errorf("IsStyled of signs: %t, %d", is, e)
	}
}

// P9.2, P9.3: as many edits as there may be, and one more, wherever the span is; P9.1 has no such limit.
func TestMostEdits(t *testing.T) {
	text := strings.Repeat("; \n", api.MaxEdits)
	got, e := style.Edits(text)
	if len(got) != api.MaxEdits || e != api.OK {
		t.Errorf("%d edits: %d", len(got), e)
	}
	if same, e := style.Range(text, api.Span{To: len(text)}); !slices.Equal(same, got) || e != api.OK {
		t.Errorf("%d edits of the whole: %d", len(same), e)
	}
	more := text + ";"
	for _, s := range list(api.Span{}, api.Span{To: len(more)}, api.Span{From: 1, To: 4}) {
		if got, e := style.Range(more, s); len(got) > 0 || e != api.ErrFull {
			t.Errorf("Range of %v with an edit too many: %v, %d", s, got, e)
		}
	}
	if got, e := style.Edits(more); len(got) > 0 || e != api.ErrFull {
		t.Errorf("Edits with an edit too many: %v, %d", got, e)
	}
	if got, e := style.Style(more); got != strings.Repeat(";\n", api.MaxEdits+1) || e != api.OK {
		t.Errorf("Style with an edit too many: %s, %d", short(got), e)
	}
}

// P9.3: what is no span of the string, before the errors of Edits.
func TestWrongSpans(t *testing.T) {
	many := strings.Repeat("; ", api.MaxEdits+1)
	for _, text := range list("", "a=b", many, strings.Repeat("x", api.MaxText)) {
		size := len(text)
		for _, s := range list(
			api.Span{From: -1, To: 0}, api.Span{From: -1, To: -1}, api.Span{From: 0, To: -1}, api.Span{From: size + 1, To: size + 1}, api.Span{From: 0, To: size + 1}, api.Span{From: size, To: size - 1},
			api.Span{From: most, To: most}, api.Span{From: 0, To: most}, api.Span{From: -most - 1, To: -most - 1}, api.Span{From: -most - 1, To: most}, api.Span{From: most, To: -most - 1}, api.Span{From: 1, To: 0},
		) {
			if got, e := style.Range(text, s); len(got) > 0 || e != api.ErrArg {
				t.Errorf("Range of %s at %v: %v, %d", short(text), s, got, e)
			}
		}
	}
}

// P9.4: what is no offset of the string.
func TestWrongOffsets(t *testing.T) {
	for _, text := range list("", "def f() = match x { a => 1 };", strings.Repeat("x", api.MaxText)) {
		for _, offset := range list(-1, len(text)+1, api.MaxText+1, most, -most-1) {
			if got, e := style.Indent(text, offset); got != 0 || e != api.ErrArg {
				t.Errorf("Indent of %s at %d: %d, %d", short(text), offset, got, e)
			}
		}
		if got, e := style.Indent(text, len(text)); got != 0 || e != api.OK {
			t.Errorf("Indent of %s at its end: %d, %d", short(text), got, e)
		}
	}
}

// P9.1, P9.4: matches as deep as they may be.
func TestDeep(t *testing.T) {
	text, want := "def f() =", "def f() ="
	// What is matched, patterns and bodies are one level deeper than their match.
	most := api.MaxNest - 1
	for i := range most {
		text += " match x { a =>"
		want += " match x {\n" + strings.Repeat("  ", i+1) + "a =>"
	}
	text += " // r"
	want += "  // r\n"
	if got, e := style.Style(text); got != want || e != api.OK {
		t.Errorf("Style of deep matches: %d and\n%s", e, got)
	}
	inner := strings.LastIndex(text, "a")
	if got, e := style.Indent(text, inner); got != 2*most || e != api.OK {
		t.Errorf("Indent in deep matches: %d, %d", got, e)
	}
	for _, part := range list("(", "-", "!", "f(", "fn(x) => ", "match x { a => ", "if ", "{", "\"\n", "//\n", "def ", "type T[") {
		text := "def f() = " + strings.Repeat(part, 1000)
		agrees(t, text[:min(len(text), 3000)])
	}
}

// Rule 4 of DOC.md: the edits of each call are new memory.
func TestMemory(t *testing.T) {
	text := "a=b // r "
	want := list(edit(1, 1, " "), edit(2, 2, " "), edit(4, 4, " "), edit(8, 9, ""), edit(9, 9, "\n"))
	for range 2 {
		all, _ := style.Edits(text)
		some, _ := style.Range(text, api.Span{To: len(text)})
		if !slices.Equal(all, want) || !slices.Equal(some, want) {
			t.Errorf("Edits: %v, and Range: %v", all, some)
		}
		clear(all)
		if !slices.Equal(some, want) {
			t.Errorf("Range has memory of Edits: %v", some)
		}
		clear(some)
	}
}
