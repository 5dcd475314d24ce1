package parse_test

import (
	"strings"
	"testing"
	"time"

	"marginalia/api"
	"marginalia/parse"
	"marginalia/token"
	"marginalia/tree"
)

// P6.1: how many levels each form of nesting adds: it is good up to depth MaxNest, and too deep beyond.
func TestNesting(t *testing.T) {
	for _, c := range []struct {
		begin, open, inside, close, end string
		first, step                     int // the depth of the outermost one, and what each one in it adds
	}{
		{"def f() = ", "(", "x", ")", ";", 1, 1},
		{"def f() = ", "f(", "x", ")", ";", 1, 1},
		{"def f() = ", "f()(a, ", "x", ")", ";", 1, 1},
		{"def f() = ", "a + ", "x", "", ";", 1, 0},
		{"def f() = ", "a || b && c == d + e * f(", "x", ")", ";", 1, 1},
		{"def f() = ", "-", "x", "", ";", 1, 1},
		{"def f() = ", "! ", "x", "", ";", 1, 1},
		{"def f() = ", "a * -", "x", "", ";", 2, 0},
		{"def f() = ", "-(", "x", ")", ";", 1, 2},
		{"def f() = ", "if ", "x", " then a else b", ";", 1, 1},
		{"def f() = ", "if a then ", "x", " else b", ";", 1, 1},
		{"def f() = ", "if a then b else ", "x", "", ";", 1, 1},
		{"def f() = ", "let a = ", "x", " in b", ";", 1, 1},
		{"def f() = ", "let a = b in ", "x", "", ";", 1, 1},
		{"def f() = ", "fn() => ", "x", "", ";", 1, 1},
		{"def f() = ", "fn(a: T, b: T) => ", "x", "", ";", 1, 1},
		{"def f() = ", "match ", "x", " { a => b }", ";", 1, 1},
		{"def f() = ", "match a { b => ", "x", " }", ";", 1, 1},
		{"def f() = ", "match a { b => c, d => ", "x", ", e => f }", ";", 1, 1},
		{"def f() = ", "a + if b then c else ", "x", "", ";", 1, 2},
		{"def f() = ", "a * let b = c in ", "x", "", ";", 1, 2},
		{"def f() = ", "a == fn() => ", "x", "", ";", 1, 2},
		{"def f() = ", "a && match b { c => ", "x", " }", ";", 1, 2},
		{"def f() = ", "-if a then b else ", "x", "", ";", 1, 3},
		{"def f() = ", "fn() => ", "fn(a: T) => x", "", ";", 2, 1},
		{"def f() = ", "(", "match a { A => b }", ")", ";", 2, 1},
		{"def f() = ", "(", "match a { A(b, _) => c }", ")", ";", 3, 1},
		{"def f() = ", "(", "fn(a: T[b]) => c", ")", ";", 3, 1},
		{"def f() = ", "(", "-x", ")", ";", 2, 1},
		{"def f() = ", "(", "1 + fn() => x", ")", ";", 3, 1},
		{"def f(a: ", "T[", "a", "]", ") = 1;", 1, 1},
		{"def f(a: ", "m.T[a, ", "a", "]", ") = 1;", 1, 1},
		{"def f(): ", "(", "a", ") -> b", " = 1;", 1, 1},
		{"def f(): ", "(a, b) -> ", "a", "", " = 1;", 1, 1},
		{"type T = A(B, ", "T[", "a", "]", ");", 1, 1},
		{"def f() = match a { ", "A(", "x", ")", " => b };", 2, 1},
		{"def f() = match a { ", "m.A(_, ", "-1", ")", " => b };", 2, 1},
		{"def f() = match a { b => ", "(", "x", ")", " };", 2, 1},
		{"def f() = fn(a: ", "T[", "a", "]", ") => b;", 2, 1},
	} {
		text := func(count int) string {
			return c.begin + strings.Repeat(c.open, count) + c.inside + strings.Repeat(c.close, count) + c.end
		}
		for count := range 104 {
			if last := (api.MaxNest - c.first) / max(c.step, 1); count < 3 || last-2 < count && count < last+4 {
				agrees(t, text(count))
			}
			if got, want := parse.Good(text(count)), c.first+c.step*count <= api.MaxNest; got != want {
				t.Errorf("%s, and within it %d times %s: good is %v", c.begin, count, c.open, got)
			}
		}
	}
}

// inner returns what is written of nodes, one in another.
func inner(count int, open, inside, close string) string {
	return strings.Repeat(open, count) + inside + strings.Repeat(close, count)
}

// P6.1: what is noted of what is too deep, and what is made of it.
func TestTooDeep(t *testing.T) {
	begin, def := "def f()=", "File[Def[def ~ f Params[( )] = "
	brackets := strings.Repeat("(", 99)
	parses(t, begin+brackets+"(x",
		def+inner(99, "Paren[( ", "Paren[( ? ?]", " ?]")+" ?] Error[x]]", "expected 108 ), deep 108-109")
	parses(t, begin+brackets+"(",
		def+inner(99, "Paren[( ", "Paren[( ? ?]", " ?]")+" ?]]", "expected 108 ), deep 108")
	parses(t, begin+brackets+"( // r\n",
		def+inner(99, "Paren[( ", "Paren[( ? ?]", " ?]")+" ?] ~ // r ~]", "expected 108 ), deep 114")
	parses(t, begin+brackets+"(+1)"+strings.Repeat(")", 99)+";",
		def+inner(99, "Paren[( ", "Binary[Paren[( ? ?] + Literal[1]]", " )]")+" ?] Error[) ;]]", "expected 108 ), deep 108-109, expected 209 ;")
	parses(t, begin+brackets+"f(x)(y)"+strings.Repeat(")", 99)+";",
		def+inner(99, "Paren[( ", "Call[Name[f] Args[( ? ?]]", " ?]")+" ?] Error[x ) ( y "+strings.Repeat(") ", 100)+";]]", "expected 109 ), deep 109-110")
	parses(t, begin+brackets+"f()((y));",
		def+inner(99, "Paren[( ", "Call[Name[f] Args[( )] Args[( ? ?] Args[( ? ?]]", " ?]")+" ?] Error[y ) ) ;]]", "expected 111 ), deep 111-112, expected 112 ), deep 112-113")
	parses(t, begin+brackets+"if a then b",
		def+inner(99, "Paren[( ", "If[if ? ? ? ? ?]", " ?]")+" ?] ~ Error[a ~ then ~ b]]", "expected 109 then, deep 110-111, deep 110-111, deep 110-111")
	parses(t, begin+brackets+"let a=1 in 2",
		def+inner(99, "Paren[( ", "Let[let ~ a = ? ? ?]", " ?]")+" ?] Error[1 ~ in ~ 2]]", "expected 113 in, deep 113-114, deep 113-114")
	parses(t, begin+brackets+"1+if a",
		def+inner(99, "Paren[( ", "Binary[Literal[1] + ?]", " ?]")+" ?] Error[if ~ a]]", "expected 109 ), deep 109-111")
	parses(t, begin+brackets+"match a{b=>c}",
		def+inner(99, "Paren[( ", "Match[match ? ? ~ Case[? ? ?] ?]", " ?]")+" ?] Error[a { b => c }]]", "expected 112 {, deep 113-114, deep 113-114, deep 113-114")
	signs := strings.Repeat("-", 100)
	parses(t, begin+signs+"x;",
		def+inner(100, "Unary[- ", "?", "]")+" ?] Error[x ;]]", "expected 108 ;, deep 108-109")
	parses(t, begin+signs+"-x;",
		def+"Binary["+inner(100, "Unary[- ", "?", "]")+" - Name[x]] ;]]", "deep 108-109")
	parses(t, begin+signs+"(x);",
		def+inner(100, "Unary[- ", "?", "]")+" ?] Error[( x ) ;]]", "expected 108 ;, deep 108-109")
	parses(t, begin+signs+"*x;",
		def+"Binary["+inner(100, "Unary[- ", "?", "]")+" * Name[x]] ;]]", "deep 108-109")
	parses(t, "def f(a:"+strings.Repeat("()->", 100)+"b",
		"File[Def[def ~ f Params[( Param[a : "+inner(100, "TypeFn[( ) -> ", "?", "]")+"] ?] ? Name[b] ?]]", "expected 408 ), deep 408-409, expected 409 ;")
	parses(t, "type T=A("+strings.Repeat("B[", 100)+strings.Repeat("]", 100)+");",
		"File[TypeDef[type ~ T = Variant[A Args[( "+inner(99, "TypeName[B TypeArgs[[ ", "TypeName[B TypeArgs[[ ? ]]]", " ]]]")+" )]] ;]]", "deep 209-210")
	parses(t, "def f()=match a{"+strings.Repeat("A(", 99)+"-)",
		def+"Match[match ~ Name[a] { Case["+inner(98, "Pattern[A Patterns[( ", "Pattern[A Patterns[( ? ?]]", " ?]]")+" ? Unary[- ?]] ?] ?] Error[)]]", "expected 214 ), deep 214-215, expected 215 expression")
}

// P6.1: after what is too deep the next item is what it is alone.
func TestItemsAfterTooDeep(t *testing.T) {
	text := "def f()=" + strings.Repeat("(", 5000) + "\nimport a;\ndef g() = (1);"
	n, notes := parsed(t, text)
	if got := showAll(n.Kids[1:]); got != "~ Import[import ~ a ;] ~ Def[def ~ g Params[( )] ~ = ~ Paren[( Literal[1] )] ;]" {
		t.Errorf("after what is too deep: %.500s", got)
	}
	if len(notes) < 2 {
		t.Errorf("the notes: %s", showNotes(notes))
	}
}

// P1, P6.1, P6.2, P6.4: strings as long as they may be, of anything again and again.
func TestLongStrings(t *testing.T) {
	for begin, parts := range map[string][]string{
		"": {
			"(", ";", "a", "a ", "A ", "1 ", `"t"`, "\"\n", "#", "# ", " ", "//\n", "// r\n(", "if ", "import ", "import a;", "type ", "type T=A;", "def ", "def f()=1;", "def f(", "def f(a:T[", "def f()=((", "x;", "def f()=match a{",
		},
		"def f() = ": {
			"(", ")", "[", "{", ",", ".", "=", "+", "-", "*", "<", "!", "||", "==", "((", "f(", "-(", "f(a)", "(a)(", "a+", "a*-b||c&&", "a.b(", "if ", "if(", "if a then ", "let ", "let a=", "fn(", "fn()=>", "fn(a:(", "match ", "match a{", "match(",
			"a||b&&c==d+e*f(", "a||b&&c==d+e*-", "a||b&&c==d+e*if ", "a||b&&c==d+e*match f{g=>", "def f() = ",
		},
		"def f(a: ":            {"(", "T[", "m.T[", "()->", "(a)->(", "(a,", "T[a,", "m.", "a ", ",", ",b:T["},
		"type T = A(":          {"(", "T[", "a,", ")|B(", "|", "|A"},
		"def f() = match a { ": {"A(", "m.A(", "_,", "a=>b,", "1=>(", "-", "a=>match b{", "a=>match b{A(", ",", "}"},
	} {
		for _, part := range parts {
			isParsedInTime(t, begin+strings.Repeat(part, (api.MaxText-len(begin))/len(part)))
		}
	}
}

func isParsedInTime(t *testing.T, text string) {
	t.Helper()
	before := time.Now()
	n, notes := parsed(t, text)
	if got, e := tree.Text(n); got != text || e != api.OK {
		t.Errorf("the string of the tree of %s is another one: %d", short(text), e)
	}
	if got, e := parse.Notes(n); !sameNotes(got, notes) || e != api.OK || parse.Good(text) != (len(notes) == 0) {
		t.Errorf("Notes of the tree of %s: %d", short(text), e)
	}
	items, e := parse.Items(n)
	count := 0
	for _, kid := range n.Kids {
		if kid.Kind == api.NdImport || kid.Kind == api.NdTypeDef || kid.Kind == api.NdDef {
			count++
		}
	}
	if len(items) != count || e != api.OK {
		t.Errorf("Items of the tree of %s: %d, not %d", short(text), len(items), count)
	}
	tokens, _ := token.Lex(text)
	if made, e := parse.Tree(tokens); !tree.Same(made, n) || e != api.OK {
		t.Errorf("Tree of the tokens of %s: %d", short(text), e)
	}
	if took := time.Since(before); took > 20*time.Second {
		t.Errorf("all that is asked of %s takes %v", short(text), took)
	}
}
