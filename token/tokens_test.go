package token_test

import (
	"slices"
	"strings"
	"testing"

	"marginalia/api"
	"marginalia/token"
)

// variety returns tokens of all kinds and, beside them, some that Lex does not give.
func variety() []api.Token {
	return list(
		blank(" "), blank("\n"), blank("\r\n"), remark("//"), remark("// a"), name("a"), name("A1"), word("in"), word("fn"),
		number("0"), number("12"), text(`""`), text(`"a\n"`), sign("="), sign("=="), sign("=>"), sign("-"), sign("->"), sign("|"), sign("||"), sign("&&"), sign("("), sign("<"),
		bad("&"), bad(">"), bad("/"), bad("#"), bad(`\`), bad(`"`), bad(`"a`), bad(`"\"`),
		name("in"), word("a"), number("a"), bad("a"), blank("a"), remark("/"), remark("//\n"), text(`"`), bad(`""`), sign("&"), sign("=="+"="), name("a "), bad("#&&"), bad("#\""))
}

// P3.2: IsToken.
func TestIsToken(t *testing.T) {
	long := strings.Repeat("a", api.MaxText)
	for _, c := range []struct {
		t    api.Token
		want bool
	}{
		{blank(" \t\n\r"), true}, {blank("\v"), false}, {blank(" a"), false}, {blank(""), false},
		{remark("//"), true}, {remark("// \"a"), true}, {remark("/"), false}, {remark("//\n"), false}, {remark("/ /"), false}, {remark(" //"), false},
		{name("a"), true}, {name("_"), true}, {name("In"), true}, {name("in"), false}, {name("1"), false}, {name("a1"), true}, {name("1a"), false}, {name("a.b"), false}, {name("\u00e9"), false}, {name(""), false},
		{word("in"), true}, {word("match"), true}, {word("inn"), false}, {word("In"), false}, {word("Int"), false}, {word(""), false},
		{number("0"), true}, {number("00"), true}, {number("99999999999999999999"), true}, {number("-1"), false}, {number("1a"), false}, {number(""), false},
		{text(`""`), true}, {text(`"\n"`), true}, {text(`"\"`), false}, {text(`"\x"`), false}, {text(`"`), false}, {text(`a`), false}, {text(`"a""b"`), false}, {text("\"\n\""), false},
		{sign("->"), true}, {sign("!"), true}, {sign("&"), false}, {sign(">"), false}, {sign("!="), false}, {sign(""), false},
		{bad("#"), true}, {bad("#&/"), true}, {bad("//"), false}, {bad("&&"), false}, {bad(`"a`), true}, {bad(`"a"`), false}, {bad("\"a\n"), false}, {bad(`#"`), false}, {bad("a"), false}, {bad(""), false},
		{api.Token{}, false}, {api.Token{Text: "a"}, false}, {api.Token{Kind: -3, Text: "a"}, false}, {api.Token{Kind: 9, Text: "#"}, false},
		{name(long), true}, {name(long + "a"), false},
	} {
		if got := token.IsToken(c.t); got != c.want {
			t.Errorf("IsToken(%s) = %t", show(c.t), got)
		}
	}
}

// P3.2: IsToken of all short strings, with each kind, against the model.
func TestIsTokenAgainstModel(t *testing.T) {
	all(bytesOfAllSorts, 3, func(s string) {
		lexed := modelLex(s)
		for kind := -1; kind <= api.TkBad+1; kind++ {
			if got, want := token.IsToken(api.Token{Kind: kind, Text: s}), len(lexed) == 1 && lexed[0].Kind == kind; got != want {
				t.Errorf("IsToken(%d, %q) = %t", kind, s, got)
			}
		}
	})
}

// P3.2: Apart.
func TestApart(t *testing.T) {
	for _, c := range []struct {
		a, b api.Token
		want bool
	}{
		{name("a"), name("b"), false}, {name("a"), word("in"), false}, {word("in"), name("a"), false}, {word("in"), word("in"), false},
		{name("a"), number("1"), false}, {word("in"), number("1"), false}, {number("1"), name("a"), true}, {number("1"), word("in"), true}, {number("1"), number("1"), false},
		{name("a"), sign("("), true}, {sign("("), name("a"), true}, {name("a"), blank(" "), true}, {blank(" "), blank(" "), false},
		{sign("="), sign("="), false}, {sign("="), bad(">"), false}, {sign("="), sign("=="), false}, {sign("=="), sign("="), true}, {sign("="), sign("=>"), false}, {sign("=="), sign("=>"), true},
		{sign("-"), bad(">"), false}, {sign("-"), sign("->"), true}, {sign("|"), sign("|"), false}, {sign("|"), sign("||"), false}, {sign("||"), sign("|"), true},
		{bad("&"), bad("&"), false}, {bad("&"), sign("&&"), false}, {sign("&&"), bad("&"), true},
		{bad("/"), bad("/"), false}, {bad("/"), remark("//"), false}, {bad("#"), remark("//"), true}, {sign("+"), remark("//"), true},
		{remark("//"), blank("\n"), true}, {remark("//"), blank(" \n"), false}, {remark("//"), blank("\r\n"), false}, {remark("//"), blank("\n "), true}, {remark("//"), name("a"), false}, {remark("//"), remark("//"), false},
		{bad("#"), bad("#"), false}, {bad("#"), bad(`"`), true}, {bad("#"), text(`""`), true}, {bad(`"`), bad(`"`), false}, {bad(`"`), bad("#"), false}, {bad(`"`), text(`""`), false}, {bad(`"`), blank("\n"), true}, {bad(`"`), blank(" "), false}, {bad(`"`), name("n"), false}, {bad(`"`), sign("("), false},
		{text(`""`), text(`""`), true}, {text(`""`), bad(`"`), true}, {text(`""`), name("a"), true}, {name("a"), text(`""`), true}, {number("1"), text(`""`), true},
		{name("in"), sign("("), false}, {sign("("), name("in"), false}, {name(""), name("a"), false}, {name("a"), name(""), false}, {api.Token{}, api.Token{}, false}, {name("a "), sign("("), false}, {api.Token{Text: "("}, name("a"), false},
	} {
		if got := token.Apart(c.a, c.b); got != c.want {
			t.Errorf("Apart(%s) = %t", show(c.a, c.b), got)
		}
	}
}

// P3.2: two tokens are neighbours of a string, and so not longer than one together.
func TestApartLimit(t *testing.T) {
	most := name(strings.Repeat("a", api.MaxText-1))
	if !token.Apart(most, sign("(")) || !token.Apart(sign("("), most) {
		t.Error("Apart of just enough bytes: false")
	}
	if token.Apart(most, sign("->")) || token.Apart(sign("->"), most) || token.Apart(name(most.Text+"aa"), sign("(")) || token.Apart(sign("("), name(most.Text+"aa")) {
		t.Error("Apart of one byte too many: true")
	}
}

// P3.2: Apart of many tokens, and some that are none, against the model.
func TestApartAgainstModel(t *testing.T) {
	tokens := variety()
	all(bytesOfAllSorts, 2, func(s string) { tokens = append(tokens, modelLex(s)...) })
	for _, a := range tokens {
		for _, b := range tokens {
			if got := token.Apart(a, b); got != modelApart(a, b) {
				t.Errorf("Apart(%s) = %t", show(a, b), got)
			}
		}
	}
}

// P3.3: IsTrivia.
func TestIsTrivia(t *testing.T) {
	for kind := -1; kind <= api.TkBad+1; kind++ {
		for _, s := range []string{"", " ", "a", "//", "("} {
			if got, want := token.IsTrivia(api.Token{Kind: kind, Text: s}), kind == api.TkBlank || kind == api.TkRemark; got != want {
				t.Errorf("IsTrivia(%d, %q) = %t", kind, s, got)
			}
		}
	}
}

// P3.3: Great.
func TestGreat(t *testing.T) {
	for _, c := range []struct {
		t    api.Token
		want bool
	}{
		{name("A"), true}, {name("Z"), true}, {name("M_1x"), true}, {name("In"), true},
		{name("a"), false}, {name("z"), false}, {name("_"), false}, {name("_A"), false}, {name("aB"), false}, {name(""), false}, {api.Token{}, false},
		{word("in"), false}, {word("A"), false}, {number("1"), false}, {text(`"A"`), false}, {bad("A"), false}, {blank("A"), false}, {api.Token{Text: "A"}, false}, {api.Token{Kind: 9, Text: "A"}, false},
		{name("@"), false}, {name("["), false}, {name("\u00c4"), false}, {name("\xc1"), false},
	} {
		if got := token.Great(c.t); got != c.want {
			t.Errorf("Great(%s) = %t", show(c.t), got)
		}
	}
	for b := range 256 {
		if got := token.Great(name(string([]byte{byte(b), 'x'}))); got != ('A' <= b && b <= 'Z') {
			t.Errorf("Great of byte %d: %t", b, got)
		}
	}
}

// P3.3: Solid.
func TestSolid(t *testing.T) {
	for _, c := range []struct {
		tokens []api.Token
		want   []int
	}{
		{nil, nil},
		{list(), nil},
		{list(blank(" ")), nil},
		{list(remark("//"), blank("\n"), remark("//")), nil},
		{list(name("a")), []int{0}},
		{list(blank(" "), name("a")), []int{1}},
		{list(word("def"), blank(" "), name("f"), sign("("), blank(" "), remark("//"), blank("\n"), number("1"), text(`""`), bad("#")), []int{0, 2, 3, 7, 8, 9}},
		{list(api.Token{}, blank(""), api.Token{Kind: 9}), []int{0, 2}},
	} {
		before := slices.Clone(c.tokens)
		if got := token.Solid(c.tokens); !slices.Equal(got, c.want) {
			t.Errorf("Solid(%s) = %v", show(c.tokens...), got)
		}
		if !slices.Equal(c.tokens, before) {
			t.Errorf("Solid changes %s", show(before...))
		}
	}
	if got := token.Solid(slices.Repeat(list(sign("("), blank(" ")), api.MaxTokens)); len(got) != api.MaxTokens || got[api.MaxTokens-1] != 2*api.MaxTokens-2 {
		t.Errorf("Solid of many tokens: %d", len(got))
	}
}

// P3.5: At.
func TestAt(t *testing.T) {
	long := name(strings.Repeat("a", api.MaxText))
	tokens := list(word("def"), blank(" "), name("f"), text(`"\n"`), remark("//x"))
	for offset, want := range []int{0, 0, 0, 1, 2, 3, 3, 3, 3, 4, 4, 4, 5} {
		if got, e := token.At(tokens, offset); got != want || e != api.OK {
			t.Errorf("At(%d) = %d, %d", offset, got, e)
		}
	}
	for _, c := range []struct {
		tokens []api.Token
		offset int
		want   int
		e      api.Errno
	}{
		{nil, 0, 0, api.OK}, {nil, 1, 0, api.ErrArg}, {nil, -1, 0, api.ErrArg},
		{tokens, -1, 0, api.ErrArg}, {tokens, 13, 0, api.ErrArg}, {tokens, 1 << 62, 0, api.ErrArg}, {tokens, -1 << 63, 0, api.ErrArg},
		{list(name("a")), 0, 0, api.OK}, {list(name("a")), 1, 1, api.OK}, {list(name("a")), 2, 0, api.ErrArg},
		{list(long), api.MaxText - 1, 0, api.OK}, {list(long), api.MaxText, 1, api.OK}, {list(long), api.MaxText + 1, 0, api.ErrArg},
		{list(long, sign("(")), 0, 0, api.ErrLimit}, {list(long, sign("(")), -1, 0, api.ErrLimit},
		{slices.Repeat(list(sign(";")), api.MaxTokens+1), 1, 0, api.ErrLimit}, {slices.Repeat(list(sign("")), api.MaxTokens+1), -1, 0, api.ErrLimit},
		{slices.Repeat(list(sign(";")), api.MaxTokens), 12345, 12345, api.OK},
		{list(name("a"), name("b")), 0, 0, api.ErrForm}, {list(name("a"), name("b")), 9, 0, api.ErrForm}, {list(name("a"), name("")), 0, 0, api.ErrForm}, {list(name("in")), 1, 0, api.ErrForm}, {list(name("in")), -1, 0, api.ErrForm},
	} {
		before := slices.Clone(c.tokens)
		if got, e := token.At(c.tokens, c.offset); got != c.want || e != c.e {
			t.Errorf("At(%s, %d) = %d, %d, not %d, %d", show(c.tokens...), c.offset, got, e, c.want, c.e)
		}
		if !slices.Equal(c.tokens, before) {
			t.Errorf("At changes %s", show(before...))
		}
	}
}

// P3.5: the byte at each offset of random strings is in the token that At returns.
func TestAtHasTheByte(t *testing.T) {
	some(partsOfAllSorts, 400, func(s string) {
		tokens := modelLex(s)
		begin := 0
		for i, k := range tokens {
			for offset := begin; offset < begin+len(k.Text); offset++ {
				if got, e := token.At(tokens, offset); got != i || e != api.OK {
					t.Errorf("At of %d in %q: %d, %d", offset, s, got, e)
				}
			}
			begin += len(k.Text)
		}
		if got, e := token.At(tokens, begin); got != len(tokens) || e != api.OK {
			t.Errorf("At of the end of %q: %d, %d", s, got, e)
		}
	})
}

// P3.6: Words and Signs.
func TestWordsAndSigns(t *testing.T) {
	for _, c := range []struct {
		what string
		list func() []string
		want []string
	}{{"Words", token.Words, modelWords}, {"Signs", token.Signs, modelSigns}} {
		want := slices.Clone(c.want)
		slices.Sort(want)
		got := c.list()
		if !slices.Equal(got, want) {
			t.Errorf("%s: %q", c.what, got)
		}
		clear(got)
		if again := c.list(); !slices.Equal(again, want) {
			t.Errorf("%s again, after the first list was cleared: %q", c.what, again)
		}
		for _, s := range want {
			lexes(t, s, modelLex(s))
		}
	}
}
