package style_test

import (
	"math/rand"
	"testing"

	"marginalia/api"
	"marginalia/style"
)

// P9.1: right sources of all sorts, written with any blanks and remarks, and besides in good style.
func TestAuthor(t *testing.T) {
	someSources(3000, func(_ *rand.Rand, text, want string) {
		if got, e := style.Style(text); got != want || e != api.OK {
			t.Fatalf("Style of\n%s\n%d and\n%s\nnot\n%s", text, e, got, want)
		}
		if is, e := style.IsStyled(text); is != (text == want) || e != api.OK {
			t.Fatalf("IsStyled of\n%s\n%t, %d", text, is, e)
		}
		if is, e := style.IsStyled(want); !is || e != api.OK {
			t.Fatalf("IsStyled of\n%s\n%t, %d", want, is, e)
		}
	})
}

// P9.1, P9.2: strings of all sorts, against the model.
func TestSomeTexts(t *testing.T) {
	someTexts(800, func(_ *rand.Rand, text string) { agrees(t, text) })
	someMess(7000, func(_ *rand.Rand, text string) { agrees(t, text) })
}

// P9.1, P9.2: all short strings of parts that say where lines begin and end, against the model.
func TestAllOfLines(t *testing.T) {
	all(list("import a;", "def", ";", " ", "\n", "//", "// \t", "\""), 5, func(s string) { agrees(t, s) })
	all(list("import ", "def ", "x ", "\n", "\n\n", "//\n"), 5, func(s string) { agrees(t, s) })
}

// P9.1, P9.2: all short bodies of parts of matches, and of what has no blank on one side, against the model.
func TestAllOfBodies(t *testing.T) {
	all(list("match x {", "a =>", ",", "}", "{", "//\n", "\n", " // r\n", "def"), 4, func(s string) {
		agrees(t, "def f() = match x {"+s)
		agrees(t, "def f() ="+s)
	})
	all(list("(", ")", "-", "!", "a", "A", ".", "[", ":", " ", "# ", "fn "), 3, func(s string) {
		agrees(t, "def f() = "+s)
		agrees(t, "def f() = match x { "+s)
		agrees(t, "def f("+s)
		agrees(t, "type A"+s)
		agrees(t, "type A = A"+s)
		agrees(t, "; "+s)
	})
}

// P9.1, P9.2: all short strings of bytes that begin, end or change tokens, against the model.
func TestAllOfBytes(t *testing.T) {
	all(list(" ", "\n", "\r", "/", "\"", "-", ">", "=", "&", "(", "x", "1", "\xff"), 4, func(s string) { agrees(t, s) })
}

// P9.3, P9.4: spans and offsets of strings of all sorts, against the model.
func TestSomeSpans(t *testing.T) {
	someTexts(800, func(r *rand.Rand, text string) {
		m := newModel(t, text)
		if len(m.edits()) > api.MaxEdits {
			return
		}
		for range 4 {
			from := r.Intn(len(text) + 1)
			m.agreesAt(t, from)
			m.agreesIn(t, api.Span{From: from, To: from + r.Intn(len(text)-from+1)})
			m.agreesIn(t, api.Span{From: from, To: min(len(text), from+r.Intn(4))})
		}
	})
}

// P9.3, P9.4: all spans and offsets of short strings, against the model.
func TestAllSpans(t *testing.T) {
	all(list("x", " ", "\n", "//", ";"), 4, func(s string) { agreesAll(t, s) })
	all(list("{", "A=>", ",", "}", "\n//\n"), 3, func(s string) { agreesAll(t, "def =match x"+s) })
}
