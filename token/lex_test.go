package token_test

import (
	"slices"
	"strings"
	"testing"

	"marginalia/api"
	"marginalia/token"
)

// lexes holds Lex of a string, and Text of the tokens, against what they are to be.
func lexes(t *testing.T, s string, want []api.Token) {
	t.Helper()
	if got, e := token.Lex(s); !slices.Equal(got, want) || e != api.OK {
		t.Errorf("Lex(%.40q) = %s, %d, not %s", s, show(got...), e, show(want...))
	}
	if back, e := token.Text(want); back != s || e != api.OK {
		t.Errorf("Text of the tokens of %.40q: %.40q, %d", s, back, e)
	}
}

// P3.1: the chapter's examples.
func TestExamples(t *testing.T) {
	lexes(t, "def f(x)=x+1; // one", list(word("def"), blank(" "), name("f"), sign("("), name("x"), sign(")"), sign("="), name("x"), sign("+"), number("1"), sign(";"), blank(" "), remark("// one")))
	lexes(t, `"a`, list(bad(`"a`)))
	lexes(t, "&", list(bad("&")))
	lexes(t, "&&&", list(sign("&&"), bad("&")))
	lexes(t, "==>", list(sign("=="), bad(">")))
	lexes(t, "=>", list(sign("=>")))
	lexes(t, "===>", list(sign("=="), sign("=>")))
}

// P3.1: the edges of each kind of token.
func TestLex(t *testing.T) {
	for _, c := range []struct {
		s    string
		want []api.Token
	}{
		{"", nil},
		// blanks
		{" ", list(blank(" "))},
		{"\t", list(blank("\t"))},
		{"\n", list(blank("\n"))},
		{"\r", list(blank("\r"))},
		{" \n\t\r\n\n ", list(blank(" \n\t\r\n\n "))},
		{"\v\f\x00\u00a0", list(bad("\v\f\x00\u00a0"))},
		{"a \r\n b", list(name("a"), blank(" \r\n "), name("b"))},
		// remarks
		{"//", list(remark("//"))},
		{"//\n", list(remark("//"), blank("\n"))},
		{"// a\r\n\t// \"b//\n", list(remark("// a\r"), blank("\n\t"), remark("// \"b//"), blank("\n"))},
		{"///\xff /", list(remark("///\xff /"))},
		{"/", list(bad("/"))},
		{"/ /", list(bad("/"), blank(" "), bad("/"))},
		{"/a//", list(bad("/"), name("a"), remark("//"))},
		{"#//a", list(bad("#"), remark("//a"))},
		{"#/a", list(bad("#/"), name("a"))},
		// names, words, numbers
		{"azAZ_09", list(name("azAZ_09"))},
		{"_", list(name("_"))},
		{"_1", list(name("_1"))},
		{"09az", list(number("09"), name("az"))},
		{"1_000", list(number("1"), name("_000"))},
		{"0x1F", list(number("0"), name("x1F"))},
		{"1in", list(number("1"), word("in"))},
		{"in1", list(name("in1"))},
		{"in_ _in In IN", list(name("in_"), blank(" "), name("_in"), blank(" "), name("In"), blank(" "), name("IN"))},
		{"i in int import imports impor", list(name("i"), blank(" "), word("in"), blank(" "), name("int"), blank(" "), word("import"), blank(" "), name("imports"), blank(" "), name("impor"))},
		{"-1", list(sign("-"), number("1"))},
		{"1.5", list(number("1"), sign("."), number("5"))},
		{"a.B", list(name("a"), sign("."), name("B"))},
		{"a\u00e9b", list(name("a"), bad("\u00e9"), name("b"))},
		{"\u0663", list(bad("\u0663"))},
		// signs
		{"=", list(sign("="))},
		{"==", list(sign("=="))},
		{"===", list(sign("=="), sign("="))},
		{"=>=", list(sign("=>"), sign("="))},
		{"-->", list(sign("-"), sign("->"))},
		{"->>", list(sign("->"), bad(">"))},
		{"|||", list(sign("||"), sign("|"))},
		{"||||", list(sign("||"), sign("||"))},
		{"&&&&", list(sign("&&"), sign("&&"))},
		{"& &", list(bad("&"), blank(" "), bad("&"))},
		{"#&&&", list(bad("#"), sign("&&"), bad("&"))},
		{"!=", list(sign("!"), sign("="))},
		{"<=>", list(sign("<"), sign("=>"))},
		{"<-", list(sign("<"), sign("-"))},
		{"()[]{}", list(sign("("), sign(")"), sign("["), sign("]"), sign("{"), sign("}"))},
		{",;:.+*<!", list(sign(","), sign(";"), sign(":"), sign("."), sign("+"), sign("*"), sign("<"), sign("!"))},
		// strings
		{`""`, list(text(`""`))},
		{`"""`, list(text(`""`), bad(`"`))},
		{`""""`, list(text(`""`), text(`""`))},
		{`"a//b"c`, list(text(`"a//b"`), name("c"))},
		{`"\n\"\\"`, list(text(`"\n\"\\"`))},
		{`"\\"`, list(text(`"\\"`))},
		{`"\\""`, list(text(`"\\"`), bad(`"`))},
		{`"\\\"" "`, list(text(`"\\\""`), blank(" "), bad(`"`))},
		{`"\"`, list(bad(`"\"`))},
		{`"\"x`, list(bad(`"\"x`))},
		{`"\`, list(bad(`"\`))},
		{`"\x" "a"`, list(bad(`"\x" "a"`))},
		{`"\t"`, list(bad(`"\t"`))},
		{`"\N"`, list(bad(`"\N"`))},
		{`"a\ "`, list(bad(`"a\ "`))},
		{"\"a\\\nb\"", list(bad(`"a\`), blank("\n"), name("b"), bad(`"`))},
		{"\"a\nb\"", list(bad(`"a`), blank("\n"), name("b"), bad(`"`))},
		{"\"a\r\n\"", list(bad("\"a\r"), blank("\n"), bad(`"`))},
		{"\"a\tb\rc\x00\xff\u00e9\"", list(text("\"a\tb\rc\x00\xff\u00e9\""))},
		{`"`, list(bad(`"`))},
		{"\"\n", list(bad(`"`), blank("\n"))},
		{`"def f(x) // y`, list(bad(`"def f(x) // y`))},
		{"\"a\n\"b\"", list(bad(`"a`), blank("\n"), text(`"b"`))},
		// bytes that begin no token
		{"#", list(bad("#"))},
		{"#$@", list(bad("#$@"))},
		{"#\xff\xc3&>/\\'`~^%?", list(bad("#\xff\xc3&>/\\'`~^%?"))},
		{"# #", list(bad("#"), blank(" "), bad("#"))},
		{"#a", list(bad("#"), name("a"))},
		{"#1", list(bad("#"), number("1"))},
		{"#\n", list(bad("#"), blank("\n"))},
		{"#(", list(bad("#"), sign("("))},
		{"#->", list(bad("#"), sign("->"))},
		{`#"a"`, list(bad("#"), text(`"a"`))},
		{`#$"a`, list(bad("#$"), bad(`"a`))},
		{`##"a\`, list(bad("##"), bad(`"a\`))},
		{"\\n", list(bad("\\"), name("n"))},
		{`\"a"`, list(bad(`\`), text(`"a"`))},
	} {
		lexes(t, c.s, c.want)
	}
}

// P3.1: each of the words and the signs is a token, and each kind of token can be the last one.
func TestLexAtTheEnd(t *testing.T) {
	for _, w := range modelWords {
		lexes(t, "x "+w, list(name("x"), blank(" "), word(w)))
		lexes(t, w+"s", list(name(w+"s")))
		lexes(t, "s"+w, list(name("s"+w)))
		lexes(t, w[:len(w)-1]+" ", append(modelLex(w[:len(w)-1]), blank(" ")))
		lexes(t, strings.ToUpper(w), list(name(strings.ToUpper(w))))
		lexes(t, w+w, list(name(w+w)))
	}
	for _, s := range modelSigns {
		lexes(t, "x"+s, list(name("x"), sign(s)))
		lexes(t, s+"x", list(sign(s), name("x")))
		lexes(t, s+" "+s, list(sign(s), blank(" "), sign(s)))
	}
	for _, last := range list(blank("\t "), remark("// r"), name("Zz"), word("fn"), number("007"), text(`"t"`), sign("=>"), bad("#"), bad(`"b`)) {
		lexes(t, last.Text, list(last))
		lexes(t, "(;"+last.Text, list(sign("("), sign(";"), last))
	}
}

// P3.1: each byte alone, between names, in a string and in a remark.
func TestLexBytes(t *testing.T) {
	for b := range 256 {
		s := string([]byte{byte(b)})
		for _, whole := range []string{s, "a" + s + "a", "\"" + s + "\"", "//" + s + "a", "#" + s + "#", "\"\\" + s + "\"", "&" + s, "/" + s, "|" + s, "=" + s, "-" + s, "<" + s, "1" + s + "1"} {
			lexes(t, whole, modelLex(whole))
		}
	}
}

// P3.1, P3.7: Lex and Text against the model, for all short strings and random longer ones.
func TestLexAgainstModel(t *testing.T) {
	hold := func(s string) { lexes(t, s, modelLex(s)) }
	all(bytesOfAllSorts, 4, hold)
	all(strings.Split("\"\\n\na", ""), 7, hold)
	all(strings.Split("=>-|&/#", ""), 5, hold)
	some(partsOfAllSorts, 4000, hold)
}

// P3.1: the limits.
func TestLexLimits(t *testing.T) {
	for _, unit := range []struct {
		s    string
		kind int
	}{{" ", api.TkBlank}, {"a", api.TkName}, {"7", api.TkInt}, {"#", api.TkBad}} {
		full := strings.Repeat(unit.s, api.MaxText)
		lexes(t, full, list(api.Token{Kind: unit.kind, Text: full}))
		if got, e := token.Lex(full + unit.s); len(got) > 0 || e != api.ErrLimit {
			t.Errorf("Lex of one byte too many: %d tokens, %d", len(got), e)
		}
	}
	lexes(t, strings.Repeat("(", api.MaxText), slices.Repeat(list(sign("(")), api.MaxTokens))
	lexes(t, "\""+strings.Repeat("a", api.MaxText-2)+"\"", list(text("\""+strings.Repeat("a", api.MaxText-2)+"\"")))
	lexes(t, "\""+strings.Repeat("a", api.MaxText-1), list(bad("\""+strings.Repeat("a", api.MaxText-1))))
	lexes(t, "//"+strings.Repeat("a", api.MaxText-2), list(remark("//"+strings.Repeat("a", api.MaxText-2))))
	for _, s := range []string{strings.Repeat("(", api.MaxText+1), strings.Repeat("a ", api.MaxText), "\"" + strings.Repeat("a", api.MaxText-1) + "\""} {
		if got, e := token.Lex(s); len(got) > 0 || e != api.ErrLimit {
			t.Errorf("Lex of %d bytes: %d tokens, %d", len(s), len(got), e)
		}
	}
}

// P3.1: Text's errors, and which of them comes first.
func TestTextErrors(t *testing.T) {
	long := strings.Repeat("a", api.MaxText)
	for _, c := range []struct {
		what   string
		tokens []api.Token
		want   api.Errno
	}{
		{"no tokens", nil, api.OK},
		{"an empty list", list(), api.OK},
		{"just long enough", list(name(long)), api.OK},
		{"one byte too many in one token", list(name(long + "a")), api.ErrLimit},
		{"one byte too many in two tokens", list(name(long), sign("(")), api.ErrLimit},
		{"one byte too many, of one kind", list(name(long), name("a")), api.ErrLimit},
		{"too long, and with a wrong kind at first", list(word("x"), name(long)), api.ErrLimit},
		{"too long, and with an empty text", list(name(long), name("a"), name("")), api.ErrLimit},
		{"just enough tokens", slices.Repeat(list(sign(";")), api.MaxTokens), api.OK},
		{"one token too many", slices.Repeat(list(sign(";")), api.MaxTokens+1), api.ErrLimit},
		{"one empty token too many", slices.Repeat(list(name("")), api.MaxTokens+1), api.ErrLimit},
		{"an empty one as the last too many", append(slices.Repeat(list(sign(";")), api.MaxTokens), sign("")), api.ErrLimit},
		{"just enough empty tokens", slices.Repeat(list(name("")), api.MaxTokens), api.ErrForm},
		{"just enough tokens, the last one empty", append(slices.Repeat(list(sign(";")), api.MaxTokens-1), sign("")), api.ErrForm},
		{"just long enough, of a wrong kind", list(word(long)), api.ErrForm},
		{"an empty text", list(name("")), api.ErrForm},
		{"a zero token", list(api.Token{}), api.ErrForm},
		{"an empty text at the end", list(name("a"), blank("")), api.ErrForm},
		{"an empty text at first", list(bad(""), name("a")), api.ErrForm},
		{"a word as a name", list(name("in")), api.ErrForm},
		{"a name as a word", list(word("inn")), api.ErrForm},
		{"kind 0", list(api.Token{Text: "a"}), api.ErrForm},
		{"kind 9", list(api.Token{Kind: 9, Text: "a"}), api.ErrForm},
		{"kind -1", list(api.Token{Kind: -1, Text: "#"}), api.ErrForm},
		{"two names that would be one", list(name("a"), name("b")), api.ErrForm},
		{"two blanks", list(blank(" "), blank("\n")), api.ErrForm},
		{"two numbers", list(number("1"), number("2")), api.ErrForm},
		{"a number after a name", list(name("a"), number("2")), api.ErrForm},
		{"a name after a number", list(number("2"), name("a")), api.OK},
		{"two signs that would be one", list(sign("="), sign("=")), api.ErrForm},
		{"two bad ones that would be one", list(bad("#"), bad("#")), api.ErrForm},
		{"two bad ones", list(bad("#"), bad(`"#`)), api.OK},
		{"a sign cut in two", list(sign("="), bad(">")), api.ErrForm},
		{"a text cut in two", list(bad(`"`), bad(`"`)), api.ErrForm},
		{"two tokens in one", list(name("a b")), api.ErrForm},
		{"a remark that does not end", list(remark("//"), name("a")), api.ErrForm},
		{"a remark with a line feed", list(remark("//\n")), api.ErrForm},
		{"a bad one before the last", list(sign("("), name("-"), sign(")")), api.ErrForm},
	} {
		before := slices.Clone(c.tokens)
		want := ""
		if c.want == api.OK {
			want = joined(c.tokens)
		}
		if s, e := token.Text(c.tokens); s != want || e != c.want {
			t.Errorf("Text of %s: %.20q, %d, not %d", c.what, s, e, c.want)
		}
		if !slices.Equal(c.tokens, before) {
			t.Errorf("Text of %s changes its argument", c.what)
		}
	}
}

// P3.1: Text of all lists of up to three tokens of a few sorts against the model.
func TestTextAgainstModel(t *testing.T) {
	some := append(variety(), name(""), api.Token{Text: "a"})
	for _, a := range some {
		for _, b := range some {
			for _, c := range some {
				tokens := list(a, b, c)
				s, e := token.Text(tokens)
				if right := slices.Equal(modelLex(joined(tokens)), tokens); right && (s != joined(tokens) || e != api.OK) || !right && (s != "" || e != api.ErrForm) {
					t.Errorf("Text(%s) = %q, %d", show(tokens...), s, e)
				}
			}
		}
	}
}

// P3.1: the tokens are new memory.
func TestLexIsNew(t *testing.T) {
	first, _ := token.Lex("a b")
	first[0] = sign("(")
	if second, _ := token.Lex("a b"); !slices.Equal(second, list(name("a"), blank(" "), name("b"))) {
		t.Errorf("Lex again: %s", show(second...))
	}
}
