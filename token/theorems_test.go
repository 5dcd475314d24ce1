package token_test

import (
	"slices"
	"strings"
	"testing"

	"marginalia/api"
	"marginalia/token"
)

// manyStrings calls visit with many strings: all short ones, and random ones of many parts.
func manyStrings(visit func(s string)) {
	all(bytesOfAllSorts, 4, visit)
	some(partsOfAllSorts, 3000, visit)
}

// lex returns the tokens of a string that is not too long.
func lex(t *testing.T, s string) []api.Token {
	t.Helper()
	tokens, e := token.Lex(s)
	if e != api.OK {
		t.Fatalf("Lex(%q): %d", s, e)
	}
	return tokens
}

// P3.7: Text of Lex is the string, and Lex of Text the tokens.
func TestLossless(t *testing.T) {
	manyStrings(func(s string) {
		tokens := lex(t, s)
		back, e := token.Text(tokens)
		if back != s || e != api.OK {
			t.Errorf("Text of Lex of %q: %q, %d", s, back, e)
		}
		if again := lex(t, back); !slices.Equal(again, tokens) {
			t.Errorf("Lex of Text of %s: %s", show(tokens...), show(again...))
		}
	})
}

// P3.7: all tokens are tokens, neighbours are Apart, and no text is empty.
func TestNeighbours(t *testing.T) {
	manyStrings(func(s string) {
		tokens := lex(t, s)
		for i, k := range tokens {
			if !token.IsToken(k) {
				t.Errorf("of %q %s is no token", s, show(k))
			}
			if i > 0 && !token.Apart(tokens[i-1], k) {
				t.Errorf("of %q %s are not apart", s, show(tokens[i-1], k))
			}
		}
	})
}

// P3.8: Lex of two strings whose parts are Apart is Lex of the one, and then of the other.
func TestParts(t *testing.T) {
	pieces := []string{}
	all(bytesOfAllSorts, 2, func(s string) { pieces = append(pieces, s) })
	some(partsOfAllSorts, 150, func(s string) { pieces = append(pieces, s) })
	held := 0
	for _, a := range pieces {
		before := lex(t, a)
		if len(before) == 0 {
			continue
		}
		last := before[len(before)-1]
		if last.Kind == api.TkRemark || last.Kind == api.TkBad {
			continue
		}
		for _, b := range pieces {
			after := lex(t, b)
			if len(after) == 0 || !token.Apart(last, after[0]) {
				continue
			}
			held++
			if whole := lex(t, a+b); !slices.Equal(whole, slices.Concat(before, after)) {
				t.Errorf("Lex(%q and %q) = %s", a, b, show(whole...))
			}
		}
	}
	if held < 10000 {
		t.Errorf("only %d pairs are apart", held)
	}
}

// P3.8: what is apart although nothing is between.
func TestPartsByExample(t *testing.T) {
	for _, c := range []struct{ a, b string }{{"f", "(x)"}, {"1", "a+1"}, {"==", "=>"}, {`"a"`, `"b`}, {"x ", "\"a\nb"}, {"#a", "#//"}, {"\"a\n", "b"}, {"//a\n", "//b\n"}, {"a", "//b"}, {"-", "->"}} {
		if got, want := lex(t, c.a+c.b), slices.Concat(modelLex(c.a), modelLex(c.b)); !slices.Equal(got, want) {
			t.Errorf("Lex(%q and %q) = %s", c.a, c.b, show(got...))
		}
	}
}

// P3.10: the tokens are those of the lines, but that blanks at their ends and beginnings become one; no token but a TkBlank has a line feed.
func TestLineByLine(t *testing.T) {
	manyStrings(func(s string) {
		tokens := lex(t, s)
		for _, k := range tokens {
			if k.Kind != api.TkBlank && strings.Contains(k.Text, "\n") {
				t.Errorf("a line feed in %s", show(k))
			}
		}
		var byLines []api.Token
		for line := range strings.SplitAfterSeq(s, "\n") {
			for _, k := range lex(t, line) {
				if end := len(byLines) - 1; end >= 0 && k.Kind == api.TkBlank && byLines[end].Kind == api.TkBlank {
					byLines[end].Text += k.Text
				} else {
					byLines = append(byLines, k)
				}
			}
		}
		if !slices.Equal(tokens, byLines) {
			t.Errorf("Lex(%q) = %s, and line by line %s", s, show(tokens...), show(byLines...))
		}
	})
}

// P3.10: whatever stands before a line feed, what comes after it has the same tokens.
func TestAfterALineFeed(t *testing.T) {
	after := modelLex("x\"b\"\n//c")
	for _, before := range []string{"", "a", `"a`, `"`, `"\`, "//", "// \"", "#", `#"`, "&", "=", "-", "|", "/", "1", "\\", `"a\"`} {
		for _, k := range []string{before + "\n", before + "\r\n", before + " \n\t"} {
			tokens := lex(t, k+joined(after))
			if len(tokens) < len(after) || !slices.Equal(tokens[len(tokens)-len(after):], after) || joined(tokens[:len(tokens)-len(after)]) != k {
				t.Errorf("after %q: %s", k, show(tokens...))
			}
		}
	}
}
