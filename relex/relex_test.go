package relex_test

import (
	"math"
	"math/rand"
	"slices"
	"strings"
	"testing"

	"marginalia/api"
	"marginalia/relex"
)

// relexes holds Relex of a string's tokens against all that the chapter says of it, and returns its results.
func relexes(t *testing.T, text string, edits ...api.Edit) (made []api.Token, first, last int) {
	t.Helper()
	old := lex(t, text)
	tokens, given := slices.Clone(old), slices.Clone(edits)
	made, first, last, e := relex.Relex(tokens, given)
	changed, _ := modelApply(text, edits)
	if want := lex(t, changed); e != api.OK || !slices.Equal(made, want) {
		t.Fatalf("Relex of %.60q with %v: %s, %d, not %s", text, edits, show(made), e, show(want))
	}
	if first < 0 || last < 0 || first+last > min(len(old), len(made)) {
		t.Fatalf("Relex of %.60q with %v: %d and %d of %d and %d tokens", text, edits, first, last, len(old), len(made))
	}
	if !slices.Equal(old[:first], made[:first]) || !slices.Equal(old[len(old)-last:], made[len(made)-last:]) {
		t.Fatalf("Relex of %.60q with %v: %d and %d are not the same", text, edits, first, last)
	}
	if len(edits) == 0 && (first != len(old) || last != 0) {
		t.Fatalf("Relex of %.60q without edits: %d and %d", text, first, last)
	}
	if len(edits) == 1 {
		if f, l := modelLeast(old, edits[0]); first < f || last < l {
			t.Fatalf("Relex of %.60q with %v: %d and %d, not at least %d and %d", text, edits, first, last, f, l)
		}
	}
	if !slices.Equal(tokens, old) || !slices.Equal(given, edits) {
		t.Fatalf("Relex of %.60q with %v changes its arguments", text, edits)
	}
	return made, first, last
}

// P4.1: the chapter's first example.
func TestRelexExample(t *testing.T) {
	made, _, _ := relexes(t, "a b c", edit(2, 3, "x y"))
	if want := list(name("a"), blank(" "), name("x"), blank(" "), name("y"), blank(" "), name("c")); !slices.Equal(made, want) {
		t.Errorf("the first example: %s", show(made))
	}
}

// P4.1: the chapter's second example: a quotation mark changes its line up to the end alone.
func TestRelexQuotationMark(t *testing.T) {
	text := "a b\nc d e\n\tf g"
	for at, want := range map[int][]api.Token{
		4:  list(name("a"), blank(" "), name("b"), blank("\n"), bad(`"c d e`), blank("\n\t"), name("f"), blank(" "), name("g")),
		6:  list(name("a"), blank(" "), name("b"), blank("\n"), name("c"), blank(" "), bad(`"d e`), blank("\n\t"), name("f"), blank(" "), name("g")),
		9:  list(name("a"), blank(" "), name("b"), blank("\n"), name("c"), blank(" "), name("d"), blank(" "), name("e"), bad(`"`), blank("\n\t"), name("f"), blank(" "), name("g")),
		14: append(lex(t, text), bad(`"`)),
	} {
		made, first, last := relexes(t, text, edit(at, at, `"`))
		if !slices.Equal(made, want) {
			t.Errorf("a mark at %d: %s", at, show(made))
		}
		if back, _, _ := relexes(t, joined(made), edit(at, at+1, "")); !slices.Equal(back, lex(t, text)) {
			t.Errorf("the mark at %d taken away: %s", at, show(back))
		}
		if at < 10 && (first < 2 || last < 2) {
			t.Errorf("a mark at %d: %d and %d", at, first, last)
		}
	}
}

// P4.1: how many tokens are taken over with one edit.
func TestRelexTakesOver(t *testing.T) {
	text := strings.Repeat("let a = 1 in\n", 100)
	for _, c := range []struct {
		what        string
		edit        api.Edit
		first, last int
	}{
		{"in the first line", edit(4, 5, "b"), 0, 99*10 - 1},
		{"in the last line", edit(99*13+4, 99*13+5, "b"), 99*10 - 2, 0},
		{"in the middle", edit(50*13+4, 50*13+5, "bb"), 50*10 - 2, 49*10 - 1},
		{"a line feed put", edit(50*13+3, 50*13+3, "\n"), 50*10 - 2, 49*10 - 1},
		{"a line feed taken away", edit(51*13-1, 51*13, ""), 50*10 - 2, 48*10 - 1},
		{"nothing in place of nothing", edit(50*13+3, 50*13+3, ""), 50*10 - 2, 49*10 - 1},
		{"five lines at once", edit(50*13+1, 55*13-2, "\"\n\""), 50*10 - 2, 45*10 - 1},
		{"at a line's beginning", edit(50*13, 50*13, "x"), 50*10 - 2, 49*10 - 1},
		{"at a line's end", edit(51*13-1, 51*13-1, "x"), 50*10 - 2, 49*10 - 1},
		{"a remark that takes the line in", edit(50*13, 50*13, "//"), 50*10 - 2, 49*10 - 1},
		{"all", edit(0, len(text), "x"), 0, 0},
		{"at the beginning", edit(0, 0, "x"), 0, 99*10 - 1},
		{"at the end", edit(len(text), len(text), "x"), 100*10 - 2, 0},
	} {
		if _, first, last := relexes(t, text, c.edit); first < c.first || last < c.last {
			t.Errorf("%s: %d and %d", c.what, first, last)
		}
	}
}

// P4.1: edges of blanks, remarks and strings, with one edit and with several.
func TestRelexEdges(t *testing.T) {
	for _, c := range []struct {
		text  string
		edits []api.Edit
	}{
		{"", nil},
		{"", list(edit(0, 0, ""))},
		{"", list(edit(0, 0, "a"), edit(0, 0, "b"), edit(0, 0, "\n"))},
		{"\n", list(edit(0, 0, "a"), edit(0, 0, "b"), edit(1, 1, "c"))},
		{"a", list(edit(0, 1, ""))},
		{"a\n \nb", list(edit(2, 3, ""))},
		{"a\n \nb", list(edit(2, 3, "x"))},
		{"a\n\n\nb", list(edit(0, 1, "x"), edit(4, 5, "y"))},
		{"a\n\n\nb", list(edit(0, 1, ""), edit(4, 5, ""))},
		{"a\n\n\nb", list(edit(1, 2, ""), edit(2, 3, ""), edit(3, 4, ""))},
		{"a\nb", list(edit(1, 2, ""))},
		{"a\nb", list(edit(0, 1, "//"))},
		{"a\nb", list(edit(0, 1, "//"), edit(1, 2, ""))},
		{"// a\nb", list(edit(4, 5, ""))},
		{"// a\nb", list(edit(1, 2, ""))},
		{"// a\nb\nc", list(edit(0, 1, ""), edit(6, 7, "/"))},
		{"\"a\n\"b", list(edit(2, 3, ""))},
		{"\"a\" b\nc", list(edit(2, 3, ""))},
		{"\"a\n b\nc\"", list(edit(2, 3, ""), edit(5, 6, ""))},
		{"a  \n  b  \n  c", list(edit(6, 7, ""))},
		{"a  \n  b  \n  c", list(edit(0, 1, " "), edit(6, 7, " "), edit(12, 13, " "))},
		{"a\nb\nc\nd\ne", list(edit(0, 1, "x"), edit(4, 5, "\""), edit(8, 9, "\n"))},
		{"a\nb\nc\nd\ne", list(edit(2, 2, "x"), edit(2, 2, "\n"), edit(6, 7, ""))},
		{"#&&\n#", list(edit(2, 3, ""))},
		{"#/\n/a", list(edit(2, 3, ""))},
		{"le\nt a", list(edit(2, 3, ""))},
		{"a\r\nb", list(edit(1, 2, ""))},
		{"a\r\nb", list(edit(2, 3, ""))},
	} {
		relexes(t, c.text, c.edits...)
	}
}

// P4.1, P4.4: all short strings with all edits by a few strings.
func TestRelexOfAllShortStrings(t *testing.T) {
	news := strings.Split(",\n, ,a,\",//,\n\n,a\n\",=,&", ",")
	for _, c := range []struct {
		parts []string
		most  int
	}{{strings.Split(" \n/a1\"\\n=>&#", ""), 3}, {strings.Split("\n \"a", ""), 5}} {
		all(c.parts, c.most, func(text string) {
			eachEdit(text, news, func(e api.Edit) { relexes(t, text, e) })
		})
	}
}

// P4.1, P4.4: random strings with none, one or several edits.
func TestRelexOfRandomStrings(t *testing.T) {
	someEdits(20000, func(_ *rand.Rand, text string, edits []api.Edit) {
		relexes(t, text, edits...)
	})
}

// P4.1: two edits in all short strings, so that all ways to be side by side, in one line or in two, are there.
func TestRelexWithTwoEdits(t *testing.T) {
	news := strings.Split(",\n,a,\"", ",")
	all(strings.Split("\n a\"", ""), 3, func(text string) {
		eachEdit(text, news, func(e api.Edit) {
			eachEdit(text[e.To:], news, func(f api.Edit) {
				relexes(t, text, e, edit(e.To+f.From, e.To+f.To, f.New))
			})
		})
	})
}

// P4.1: as much as the limits let in.
func TestRelexLimits(t *testing.T) {
	full := strings.Repeat("(\n", api.MaxText/2)
	relexes(t, full)
	relexes(t, full, edit(0, 1, ")"))
	relexes(t, full, edit(api.MaxText-1, api.MaxText, " "))
	relexes(t, full, edit(0, api.MaxText, strings.Repeat("a", api.MaxText)))
	relexes(t, "", edit(0, 0, full))
	relexes(t, full[1:], edit(api.MaxText/2, api.MaxText/2, "x"))
	var edits []api.Edit
	for i := range api.MaxEdits {
		edits = append(edits, edit(200*i, 200*i+1, ")"))
	}
	relexes(t, full, edits...)
	signs := strings.Repeat("(", api.MaxText)
	relexes(t, signs, edit(5000, 5001, "\""))
	relexes(t, signs, edit(5000, 5001, "\n"))
}

// tooMany are as many edits as there may be, and one more.
var tooMany = slices.Repeat(list(edit(0, 0, "")), api.MaxEdits+1)

// wrong are the errors of Relex and Line, and which of them comes first.
var wrong = []struct {
	what   string
	tokens []api.Token
	edits  []api.Edit
	want   api.Errno
}{
	{"tokens that are too long", list(name(strings.Repeat("a", api.MaxText+1))), nil, api.ErrLimit},
	{"too many tokens", slices.Repeat(list(sign("(")), api.MaxTokens+1), nil, api.ErrLimit},
	{"too many tokens, that are none", make([]api.Token, api.MaxTokens+1), nil, api.ErrLimit},
	{"tokens that would be one", list(name("a"), name("b")), nil, api.ErrForm},
	{"a zero token", list(api.Token{}), nil, api.ErrForm},
	{"a wrong kind", list(sign("a")), nil, api.ErrForm},
	{"a wrong token far from the edit", list(name("a"), blank("\n"), sign("x")), list(edit(0, 1, "b")), api.ErrForm},
	{"a wrong token that the edit replaces", list(sign("x")), list(edit(0, 1, "b")), api.ErrForm},
	{"wrong tokens, and too many edits", list(name("a"), name("b")), tooMany, api.ErrForm},
	{"wrong tokens, and a wrong span", list(api.Token{}), list(edit(5, 4, "")), api.ErrForm},
	{"tokens that are too long, and a wrong span", list(name(strings.Repeat("a", api.MaxText+1))), list(edit(5, 4, "")), api.ErrLimit},
	{"too many edits", list(name("a")), tooMany, api.ErrLimit},
	{"too many edits of no tokens", nil, tooMany, api.ErrLimit},
	{"too many edits, one with a wrong span", list(name("a")), append(list(edit(-1, 0, "")), tooMany...), api.ErrLimit},
	{"a span before the beginning", list(name("a")), list(edit(-1, 0, "")), api.ErrArg},
	{"a span beyond the end", list(name("a")), list(edit(0, 2, "")), api.ErrArg},
	{"a span after the end", list(name("a")), list(edit(2, 2, "")), api.ErrArg},
	{"a span from its end on", list(name("a")), list(edit(1, 0, "")), api.ErrArg},
	{"a span of the new string", list(name("a")), list(edit(1, 1, "bcd"), edit(2, 3, "")), api.ErrArg},
	{"spans that overlap", list(name("abc")), list(edit(0, 2, ""), edit(1, 3, "")), api.ErrArg},
	{"spans that fall", list(name("abc")), list(edit(2, 3, ""), edit(0, 1, "")), api.ErrArg},
	{"numbers as small as they can be", list(name("a")), list(edit(math.MinInt, math.MinInt, "")), api.ErrArg},
	{"numbers as large as they can be", list(name("a")), list(edit(0, 1, ""), edit(math.MaxInt, math.MaxInt, "")), api.ErrArg},
	{"all numbers", list(name("a")), list(edit(math.MinInt, math.MaxInt, "")), api.ErrArg},
	{"a wrong span after too long a string", list(name("a")), list(edit(0, 0, strings.Repeat("b", api.MaxText)), edit(2, 2, "")), api.ErrArg},
	{"a string that becomes too long", list(name("a")), list(edit(0, 0, strings.Repeat("b", api.MaxText))), api.ErrFull},
	{"a string that becomes too long by two", list(name("a")), list(edit(0, 1, strings.Repeat("\n", api.MaxText)), edit(1, 1, "b")), api.ErrFull},
	{"a full string that becomes longer", list(name(strings.Repeat("a", api.MaxText))), list(edit(7, 7, "b")), api.ErrFull},
}

// P4.1: the errors, and which of them comes first.
func TestRelexErrors(t *testing.T) {
	for _, c := range wrong {
		tokens, edits := slices.Clone(c.tokens), slices.Clone(c.edits)
		made, first, last, e := relex.Relex(tokens, edits)
		if len(made) > 0 || first != 0 || last != 0 || e != c.want {
			t.Errorf("Relex of %s: %d tokens, %d, %d, %d, not %d", c.what, len(made), first, last, e, c.want)
		}
		if !slices.Equal(tokens, c.tokens) || !slices.Equal(edits, c.edits) {
			t.Errorf("Relex of %s changes its arguments", c.what)
		}
	}
}

// P4.1: what is no error: as many edits as there may be, a string that becomes too long and short again.
func TestRelexWithoutErrors(t *testing.T) {
	relexes(t, "a", tooMany[1:]...)
	relexes(t, "ab", edit(0, 0, strings.Repeat("b", api.MaxText-1)), edit(0, 1, ""))
	relexes(t, "abcd", edit(0, 1, "x"), edit(1, 2, "y"), edit(2, 2, "z"), edit(2, 2, "\n"), edit(4, 4, ""))
}

// P4.1: the tokens are new memory, with no edits and with some.
func TestRelexIsNew(t *testing.T) {
	for _, edits := range [][]api.Edit{nil, list(edit(0, 1, "x")), list(edit(4, 5, "x")), list(edit(2, 2, ""))} {
		tokens := lex(t, "a\nb\nc")
		made := relexed(t, tokens, edits)
		for i := range made {
			made[i] = sign("(")
		}
		_ = append(made, sign(")"))
		if !slices.Equal(tokens, lex(t, "a\nb\nc")) {
			t.Errorf("Relex with %v shares memory with its argument", edits)
		}
	}
}

// P4.1: a list of tokens that goes on behind its end is not changed there.
func TestRelexBehindTheEnd(t *testing.T) {
	whole := lex(t, "a\nb\nc")
	relexed(t, whole[:1], list(edit(1, 1, "x\ny")))
	if !slices.Equal(whole, lex(t, "a\nb\nc")) {
		t.Errorf("Relex changes what is behind its argument: %s", show(whole))
	}
}
