package style_test

import (
	"math/rand"
	"slices"
	"strings"
	"testing"

	"marginalia/api"
	"marginalia/parse"
	"marginalia/rope"
	"marginalia/style"
	"marginalia/token"
	"marginalia/tree"
	"marginalia/view"
)

// P9.5: a styled string is its own styled string.
func TestAgain(t *testing.T) {
	someTexts(1500, func(_ *rand.Rand, text string) {
		once := styled(t, text)
		if again := styled(t, once); again != once {
			t.Errorf("%s is %s, and then %s", short(text), short(once), short(again))
		}
		if is, e := style.IsStyled(once); !is || e != api.OK {
			t.Errorf("IsStyled of %s: %t, %d", short(once), is, e)
		}
		if edits, e := style.Edits(once); len(edits) > 0 || e != api.OK {
			t.Errorf("Edits of %s: %v, %d", short(once), edits, e)
		}
	})
}

// things returns the solid tokens and the remarks, without their ends, of a string.
func things(text string) []api.Token {
	var all []api.Token
	tokens, _ := token.Lex(text)
	for _, x := range tokens {
		if x.Kind == api.TkRemark {
			x.Text = strings.TrimRight(x.Text, " \t\r")
		}
		if x.Kind != api.TkBlank {
			all = append(all, x)
		}
	}
	return all
}

// solid returns a tree without its trivia.
func solid(n api.Node) api.Node {
	bare := api.Node{Kind: n.Kind, Token: n.Token}
	for _, kid := range n.Kids {
		if kid.Kind != api.NdToken || !token.IsTrivia(kid.Token) {
			bare.Kids = append(bare.Kids, solid(kid))
		}
	}
	return bare
}

// P9.6: style changes neither the tokens, nor the tree but for its trivia, nor what it says.
func TestSameTokens(t *testing.T) {
	someTexts(1000, func(_ *rand.Rand, text string) {
		made := styled(t, text)
		if !slices.Equal(things(text), things(made)) {
			t.Errorf("%s and %s have other tokens", short(text), short(made))
		}
		before, after := parsed(t, text), parsed(t, made)
		if !tree.Same(solid(before), solid(after)) {
			t.Errorf("%s and %s have other trees", short(text), short(made))
		}
		one, _ := view.Of(before)
		other, _ := view.Of(after)
		if !view.Same(view.Bare(one), view.Bare(other)) {
			t.Errorf("%s and %s say something else", short(text), short(made))
		}
	})
}

// P9.7: the edits make the styled string, and there are none just where the string is styled.
func TestEditsMakeIt(t *testing.T) {
	held := 0
	someTexts(1500, func(_ *rand.Rand, text string) {
		edits, e := style.Edits(text)
		if e != api.OK {
			return
		}
		held++
		if made, e := rope.Apply(text, edits); made != styled(t, text) || e != api.OK {
			t.Errorf("%s with %v: %s, %d", short(text), edits, short(made), e)
		}
		if is, e := style.IsStyled(text); is != (len(edits) == 0) || e != api.OK {
			t.Errorf("IsStyled of %s: %t, %d, with %v", short(text), is, e, edits)
		}
	})
	if held < 4500 {
		t.Errorf("only %d strings have edits", held)
	}
}

// P9.7: a string that is styled but for one gap has one edit, which mends it.
func TestOneGap(t *testing.T) {
	someSources(500, func(r *rand.Rand, _, want string) {
		tokens, _ := token.Lex(want)
		blanks := slices.IndexFunc(tokens, func(x api.Token) bool { return x.Kind == api.TkBlank })
		if blanks < 0 {
			return
		}
		tokens[blanks].Text += " "
		text := ""
		for _, x := range tokens {
			text += x.Text
		}
		edits, e := style.Edits(text)
		if made, _ := rope.Apply(text, edits); len(edits) != 1 || made != want || e != api.OK {
			t.Errorf("%s with %v, %d: %s", short(text), edits, e, short(made))
		}
	})
}

// P9.8: a string without bad tokens has the same notes, but for their spans.
func TestSameNotes(t *testing.T) {
	held := 0
	someTexts(1500, func(_ *rand.Rand, text string) {
		if slices.ContainsFunc(things(text), func(x api.Token) bool { return x.Kind == api.TkBad }) {
			return
		}
		_, before, _ := parse.Parse(text)
		_, after, _ := parse.Parse(styled(t, text))
		isSame := slices.EqualFunc(before, after, func(a, b api.Note) bool { return a.Code == b.Code && slices.Equal(a.Args, b.Args) })
		if !isSame {
			t.Errorf("the notes of %s: %v, and styled: %v", short(text), before, after)
		}
		if len(before) > 0 {
			held++
		}
	})
	if held < 1200 {
		t.Errorf("only %d strings have notes", held)
	}
}
