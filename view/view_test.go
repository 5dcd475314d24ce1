package view_test

import (
	"math/rand"
	"strings"
	"testing"

	"marginalia/api"
	"marginalia/view"
)

// holds holds what strings say against what is written out by hand.
func holds(t *testing.T, cases [][2]string) {
	t.Helper()
	for _, c := range cases {
		if got := show(said(t, c[0])); got != c[1] {
			t.Errorf("%q says\n%s, not\n%s", c[0], got, c[1])
		}
		agrees(t, c[0])
	}
}

// P8.1: imports are the names of all NdImports, in order, missing ones too; what is no item says nothing.
func TestImports(t *testing.T) {
	holds(t, [][2]string{
		{"", ""},
		{" // r\n", ""},
		{"import a;", "import a@7"},
		{" import // r\n a // r\n ; // r", "import a@14"},
		{"import b; import a; import b;", "import b@7\nimport a@17\nimport b@27"},
		{"import;", "import ?@6"},
		{"import", "import ?@6"},
		{"import  \n", "import ?@6"},
		{"import // r\n;import a", "import ?@6\nimport a@20"},
		{"import A;", "import ?@6"},
		{"import def", "import ?@6\ndef ?@10() = missing@10-10@7-10"},
		{"import _;", "import _@7"},
		{"x; import a; #; f(1) = 99999999999999999999; import b;", "import a@10\nimport b@52"},
		{"def f() = 1; import a;", "import a@20\ndef f@4() = int(1)@10-11@0-12"},
	})
}

// P8.1: a type has its name, its parameters, its variants with their fields, and its span; missing ones too.
func TestTypes(t *testing.T) {
	holds(t, [][2]string{
		{"type T = A;", "type T@5[] | A@9()@0-11"},
		{" type T=A ; // r", "type T@6[] | A@8()@1-11"},
		{"type T[a] = A | B(a, T[a]);", "type T@5[a@7] | A@12() | B@16(var(a@18)@18-19 name(T@21 var(a@23)@23-24)@21-25)@0-27"},
		{"type T[a,b , c]=A(m.T)|B|C(() -> a);", "type T@5[a@7 b@9 c@13] | A@16(name(m@18 T@20)@18-21) | B@23() | C@25(fn(var(a@33)@33-34)@27-34)@0-36"},
		{"type", "type ?@4[] | ?@4()@0-4"},
		{"type ;", "type ?@4[] | ?@4()@0-6"},
		{"type t = a;", "type ?@4[] | ?@4()@0-4"},
		{"type T", "type T@5[] | ?@6()@0-6"},
		{"type T =  ;", "type T@5[] | ?@8()@0-11"},
		{"type T = A | ;", "type T@5[] | A@9() | ?@12()@0-14"},
		{"type T = | A;", "type T@5[] | ?@8() | A@11()@0-13"},
		{"type T = (a);", "type T@5[] | ?@8(var(a@10)@10-11)@0-13"},
		{"type T = A();", "type T@5[] | A@9(missing@11-11)@0-13"},
		{"type T = A(a,);", "type T@5[] | A@9(var(a@11)@11-12 missing@13-13)@0-15"},
		{"type T = A(a, B", "type T@5[] | A@9(var(a@11)@11-12 name(B@14)@14-15)@0-15"},
		{"type T = A( , a", "type T@5[] | A@9(missing@11-11 var(a@14)@14-15)@0-15"},
		{"type T[] = A;", "type T@5[?@7] | A@11()@0-13"},
		{"type T[a,] = A;", "type T@5[a@7 ?@9] | A@13()@0-15"},
		{"type T[ , a , = A;", "type T@5[?@7 a@10 ?@13] | A@16()@0-18"},
		{"type T[A] = A;", "type T@5[?@7] | A@7()@0-8"},
		{"type [a] = A;", "type ?@4[a@6] | A@11()@0-13"},
		{"type T = A type U = B;", "type T@5[] | A@9()@0-10\ntype U@16[] | B@20()@11-22"},
	})
}

// P8.1: a definition has its name, its parameters, its result, its body and its span; a type that is not written is zero, and one that is missing is at its place.
func TestDefs(t *testing.T) {
	holds(t, [][2]string{
		{"def f() = 1;", "def f@4() = int(1)@10-11@0-12"},
		{"def = 1;", "def ?@3() = int(1)@6-7@0-8"},
		{"def f(x) = x;", "def f@4(x@6) = name(x@11)@11-12@0-13"},
		{"def f(x, y: Int , _) : b = y ;", "def f@4(x@6 y@9:name(Int@12)@12-15 _@18):var(b@23)@23-24 = name(y@27)@27-28@0-30"},
		{"def f(x:): = 1;", "def f@4(x@6:missing@8-8):missing@10-10 = int(1)@13-14@0-15"},
		{"def f(x: , y : ) : // r\n = 1;", "def f@4(x@6:missing@8-8 y@11:missing@14-14):missing@18-18 = int(1)@27-28@0-29"},
		{"def f(x,,z) = 1;", "def f@4(x@6 ?@8 z@9) = int(1)@14-15@0-16"},
		{"def f(x, : T) = 1;", "def f@4(x@6 ?@8:name(T@11)@11-12) = int(1)@16-17@0-18"},
		{"def f(x, ) = 1;", "def f@4(x@6 ?@8) = int(1)@13-14@0-15"},
		{"def f(X) = 1;", "def f@4() = make(X@6)@6-7@0-7"},
		{"def", "def ?@3() = missing@3-3@0-3"},
		{"def // r\n", "def ?@3() = missing@9-9@0-3"},
		{"def f", "def f@4() = missing@5-5@0-5"},
		{"def f  ;", "def f@4() = missing@7-7@0-8"},
		{"def f(  ;", "def f@4() = missing@6-6@0-9"},
		{"def f(x = 1;", "def f@4(x@6) = int(1)@10-11@0-12"},
		{"def f() = ;", "def f@4() = missing@9-9@0-11"},
		{"def f() =  // r\n", "def f@4() = missing@9-9@0-9"},
		{"def f() 1;", "def f@4() = int(1)@8-9@0-10"},
		{"def f() = 1 def g() = 2", "def f@4() = int(1)@10-11@0-11\ndef g@16() = int(2)@22-23@12-23"},
		{"def F() = 1;", "def ?@3() = call(make(F@4)@4-5)@4-7@0-7"},
	})
}

// P8.1: written types are variables, names with arguments, of a module or not, and functions' types, the last of whose Args is the result.
func TestWritten(t *testing.T) {
	for _, c := range [][2]string{
		{"a", "var(a@9)@9-10"},
		{"_", "var(_@9)@9-10"},
		{"A", "name(A@9)@9-10"},
		{"m.A", "name(m@9 A@11)@9-12"},
		{"m . // r\n A", "name(m@9 A@19)@9-20"},
		{"m.", "name(m@9 ?@11)@9-11"},
		{"m. ", "name(m@9 ?@11)@9-11"},
		{"m.a", "name(m@9 ?@11)@9-11"},
		{"A[a]", "name(A@9 var(a@11)@11-12)@9-13"},
		{"A[a, m.B[c] , D]", "name(A@9 var(a@11)@11-12 name(m@14 B@16 var(c@18)@18-19)@14-20 name(D@23)@23-24)@9-25"},
		{"m.A[a]", "name(m@9 A@11 var(a@13)@13-14)@9-15"},
		{"A[]", "name(A@9 missing@11-11)@9-12"},
		{"A[ , a", "name(A@9 missing@11-11 var(a@14)@14-15)@9-15"},
		{"A[a , ]", "name(A@9 var(a@11)@11-12 missing@14-14)@9-16"},
		{"a[b]", "var(a@9)@9-10"},
		{"() -> a", "fn(var(a@15)@15-16)@9-16"},
		{"(a) -> b", "fn(var(a@10)@10-11 var(b@16)@16-17)@9-17"},
		{"(a, A , (b) -> c) -> () -> d", "fn(var(a@10)@10-11 name(A@13)@13-14 fn(var(b@18)@18-19 var(c@24)@24-25)@17-25 fn(var(d@36)@36-37)@30-37)@9-37"},
		{"(", "fn(missing@10-10)@9-10"},
		{"()", "fn(missing@11-11)@9-11"},
		{"() -> ", "fn(missing@14-14)@9-14"},
		{"(a", "fn(var(a@10)@10-11 missing@11-11)@9-11"},
		{"(a,", "fn(var(a@10)@10-11 missing@12-12 missing@12-12)@9-12"},
		{"(a, ) -> b", "fn(var(a@10)@10-11 missing@12-12 var(b@18)@18-19)@9-19"},
		{"( , a) -> b", "fn(missing@10-10)@9-10"},
		{"(a) b", "fn(var(a@10)@10-11 var(b@13)@13-14)@9-14"},
		{"1", "missing@8-8"},
		{" // r\n", "missing@8-8"},
	} {
		text := "def f() :" + c[0]
		got := said(t, text).Defs[0].Result
		if want := strings.ReplaceAll(c[1], "missing@8-8", "missing@9-9"); showWritten(got) != want {
			t.Errorf("%q has the result\n%s, not\n%s", text, showWritten(got), want)
		}
		for _, whole := range []string{text, text + " = 1;", "type T = A(" + c[0] + ");", "def f() = fn(x: " + c[0] + ") => 1;"} {
			agrees(t, whole)
		}
	}
}

// saysOf holds bodies, each of a definition of its own, against what is written out by hand.
func saysOf(t *testing.T, cases [][2]string) {
	t.Helper()
	for _, c := range cases {
		for _, end := range []string{"", ";", " // r\n;", "\nimport a;"} {
			text := "def f() = " + c[0] + end
			if got := showExpr(said(t, text).Defs[0].Body); got != c[1] {
				t.Errorf("%q has the body\n%s, not\n%s", text, got, c[1])
			}
			agrees(t, text)
		}
	}
}

// P8.1: simple expressions, with the numbers and strings that they stand for.
func TestSimple(t *testing.T) {
	saysOf(t, [][2]string{
		{"0", "int@10-11"},
		{"0042", "int(42)@10-14"},
		{"9223372036854775807", "int(9223372036854775807)@10-29"},
		{"0009223372036854775807", "int(9223372036854775807)@10-32"},
		{"9223372036854775808", "int@10-29"},
		{"18446744073709551617", "int@10-30"},
		{strings.Repeat("9", 5000), "int@10-5010"},
		{strings.Repeat("0", 5000) + "7", "int(7)@10-5011"},
		{`""`, "text@10-12"},
		{`"a"`, `text("a")@10-13`},
		{`"\n\"\\//"`, `text("\n\"\\//")@10-20`},
		{"\"\xff\x00\"", "text(\"\\xff\\x00\")@10-14"},
		{"true", "bool(1)@10-14"},
		{"false", "bool@10-15"},
		{"a", "name(a@10)@10-11"},
		{"_", "name(_@10)@10-11"},
		{"A", "make(A@10)@10-11"},
		{"m.a", "name(m@10 a@12)@10-13"},
		{"m.A", "make(m@10 A@12)@10-13"},
		{"m // r\n. A", "make(m@10 A@19)@10-20"},
		{"m.", "name(m@10 ?@12)@10-12"},
		{"m.1", "name(m@10 ?@12)@10-12"},
		{"(a)", "name(a@11)@10-13"},
		{"( ( m . a ) )", "name(m@14 a@18)@10-23"},
		{"(7", "int(7)@10-12"},
		{"( (true )", "bool(1)@10-19"},
	})
}

// P8.1: what is missing has the core of its NdMissing as its span, or that of the brackets around it.
func TestMissing(t *testing.T) {
	saysOf(t, [][2]string{
		{")", "missing@9-9"},
		{"#", "missing@9-9"},
		{"()", "missing@10-12"},
		{"(", "missing@10-11"},
		{"( ( ) )", "missing@10-17"},
		{"-", "unary(-@10 missing@11-11)@10-11"},
		{"* a", "binary(*@10 missing@9-9 name(a@12)@12-13)@9-13"},
		{"a *", "binary(*@12 name(a@10)@10-11 missing@13-13)@10-13"},
		{"|| && ", "binary(||@10 missing@9-9 binary(&&@13 missing@12-12 missing@15-15)@12-15)@9-15"},
		{"() + ()", "binary(+@13 missing@10-12 missing@15-17)@10-17"},
		{"a(,)", "call(name(a@10)@10-11 missing@12-12 missing@13-13)@10-14"},
		{"a(1, )", "call(name(a@10)@10-11 int(1)@12-13 missing@14-14)@10-16"},
		{"()()", "call(missing@10-12)@10-14"},
		{"if", "if(missing@12-12 missing@12-12 missing@12-12)@10-12"},
		{"if a else b", "if(name(a@13)@13-14 missing@14-14 name(b@20)@20-21)@10-21"},
		{"let", "let(?@13 missing@13-13 missing@13-13)@10-13"},
		{"let x in y", "let(x@14 missing@15-15 name(y@19)@19-20)@10-20"},
		{"let 1", "let(?@13 int(1)@14-15 missing@15-15)@10-15"},
		{"let X", "let(?@13 make(X@14)@14-15 missing@15-15)@10-15"},
		{"fn(x)", "fn(x@13 missing@15-15)@10-15"},
		{"fn( x y", "fn(x@14 name(y@16)@16-17)@10-17"},
		{"match x {}", "match(name(x@16)@16-17 missing@19-19=>missing@19-19)@10-20"},
		{"match { , }", "match(missing@15-15 missing@18-18=>missing@18-18 missing@20-20=>missing@20-20)@10-21"},
		{"match x { => 1 }", "match(name(x@16)@16-17 missing@20-20=>int(1)@23-24)@10-26"},
		{"match x { a b", "match(name(x@16)@16-17 name(a@20)@20-21=>name(b@22)@22-23)@10-23"},
		{"match x { - }", "match(name(x@16)@16-17 int@20-21=>missing@21-21)@10-23"},
	})
	// Before a node that takes nothing the trivia comes first.
	for _, c := range [][2]string{
		{"def f() = fn  ", "fn(missing@14-14)@10-12"},
		{"def f() = match x", "match(name(x@16)@16-17 missing@17-17=>missing@17-17)@10-17"},
		{"def f() = match x // r\n;", "match(name(x@16)@16-17 missing@23-23=>missing@23-23)@10-17"},
		{"def f() = match x {  ", "match(name(x@16)@16-17 missing@21-21=>missing@21-21)@10-19"},
		{"def f() = match x {// r\n;", "match(name(x@16)@16-17 missing@24-24=>missing@24-24)@10-19"},
		{"def f() = a(match x {  ", "call(name(a@10)@10-11 match(name(x@18)@18-19 missing@23-23=>missing@23-23)@12-21)@10-21"},
		{"def f() = a + match x { ", "binary(+@12 name(a@10)@10-11 match(name(x@20)@20-21 missing@24-24=>missing@24-24)@14-23)@10-23"},
	} {
		if got := showExpr(said(t, c[0]).Defs[0].Body); got != c[1] {
			t.Errorf("%q has the body\n%s, not\n%s", c[0], got, c[1])
		}
		agrees(t, c[0])
	}
}

// P8.1: a call for each pair of brackets, and a binary expression for each sign, of all before it; the name of a sign is where it stands.
func TestOperations(t *testing.T) {
	saysOf(t, [][2]string{
		{"a - b - c", "binary(-@16 binary(-@12 name(a@10)@10-11 name(b@14)@14-15)@10-15 name(c@18)@18-19)@10-19"},
		{"a+b-c", "binary(-@13 binary(+@11 name(a@10)@10-11 name(b@12)@12-13)@10-13 name(c@14)@14-15)@10-15"},
		{"a - (b - c)", "binary(-@12 name(a@10)@10-11 binary(-@17 name(b@15)@15-16 name(c@19)@19-20)@14-21)@10-21"},
		{"(a - b) - c", "binary(-@18 binary(-@13 name(a@11)@11-12 name(b@15)@15-16)@10-17 name(c@20)@20-21)@10-21"},
		{"a || b && c", "binary(||@12 name(a@10)@10-11 binary(&&@17 name(b@15)@15-16 name(c@20)@20-21)@15-21)@10-21"},
		{"a * b < c", "binary(<@16 binary(*@12 name(a@10)@10-11 name(b@14)@14-15)@10-15 name(c@18)@18-19)@10-19"},
		{"a == b", "binary(==@12 name(a@10)@10-11 name(b@15)@15-16)@10-16"},
		{"a + if b then c else d", "binary(+@12 name(a@10)@10-11 if(name(b@17)@17-18 name(c@24)@24-25 name(d@31)@31-32)@14-32)@10-32"},
		{"-a", "unary(-@10 name(a@11)@11-12)@10-12"},
		{"! - a", "unary(!@10 unary(-@12 name(a@14)@14-15)@12-15)@10-15"},
		{"-(a)", "unary(-@10 name(a@12)@11-14)@10-14"},
		{"-1", "unary(-@10 int(1)@11-12)@10-12"},
		{"-a * b", "binary(*@13 unary(-@10 name(a@11)@11-12)@10-12 name(b@15)@15-16)@10-16"},
		{"f()", "call(name(f@10)@10-11)@10-13"},
		{"f(1)(2)", "call(call(name(f@10)@10-11 int(1)@12-13)@10-14 int(2)@15-16)@10-17"},
		{"f ( 1 , g ( ) ) ( )", "call(call(name(f@10)@10-11 int(1)@14-15 call(name(g@18)@18-19)@18-23)@10-25)@10-29"},
		{"(f)(1)", "call(name(f@11)@10-13 int(1)@14-15)@10-16"},
		{"-f(1)", "unary(-@10 call(name(f@11)@11-12 int(1)@13-14)@11-15)@10-15"},
		{"f(1", "call(name(f@10)@10-11 int(1)@12-13)@10-13"},
		{"-match x { _ => f }(1)", "unary(-@10 call(match(name(x@17)@17-18 any@21-22=>name(f@26)@26-27)@11-29 int(1)@30-31)@11-32)@10-32"},
	})
}

// P8.1: expressions that begin with words.
func TestOpen(t *testing.T) {
	saysOf(t, [][2]string{
		{"if a then b else c", "if(name(a@13)@13-14 name(b@20)@20-21 name(c@27)@27-28)@10-28"},
		{"let x = 1 in x", "let(x@14 int(1)@18-19 name(x@23)@23-24)@10-24"},
		{"fn() => 1", "fn(int(1)@18-19)@10-19"},
		{"fn(x, y: Int) => x", "fn(x@13 y@16:name(Int@19)@19-22 name(x@27)@27-28)@10-28"},
		{"match x { _ => 1, y => y }", "match(name(x@16)@16-17 any@20-21=>int(1)@25-26 name(y@28)@28-29=>name(y@33)@33-34)@10-36"},
		{"(fn(x) => x)", "fn(x@14 name(x@20)@20-21)@10-22"},
		{"(let x = 1 in x)(2)", "call(let(x@15 int(1)@19-20 name(x@24)@24-25)@10-26 int(2)@27-28)@10-29"},
	})
}

// P8.1: patterns.
func TestPatterns(t *testing.T) {
	for _, c := range [][2]string{
		{"_", "any@20-21"},
		{"x", "name(x@20)@20-21"},
		{"_x", "name(_x@20)@20-22"},
		{"__", "name(__@20)@20-22"},
		{"0", "int@20-21"},
		{"07", "int(7)@20-22"},
		{"9223372036854775807", "int(9223372036854775807)@20-39"},
		{"9223372036854775808", "int@20-39"},
		{"-1", "int(-1)@20-22"},
		{"- // r\n 1", "int(-1)@20-29"},
		{"-0", "int@20-22"},
		{"-9223372036854775807", "int(-9223372036854775807)@20-40"},
		{"-9223372036854775808", "int(-9223372036854775808)@20-40"},
		{"-0009223372036854775808", "int(-9223372036854775808)@20-43"},
		{"-9223372036854775809", "int@20-40"},
		{"-18446744073709551615", "int@20-41"},
		{"-" + strings.Repeat("9", 5000), "int@20-5021"},
		{"-", "int@20-21"},
		{"- x", "int@20-21"},
		{`"a\n"`, `text("a\n")@20-25`},
		{`""`, "text@20-22"},
		{"true", "bool(1)@20-24"},
		{"false", "bool@20-25"},
		{"A", "make(A@20)@20-21"},
		{"m.A", "make(m@20 A@22)@20-23"},
		{"_.A", "make(_@20 A@22)@20-23"},
		{"m.", "make(m@20 ?@22)@20-22"},
		{"m . ", "make(m@20 ?@23)@20-23"},
		{"m._", "make(m@20 ?@22)@20-22"},
		{"A(x, _ , -1)", "make(A@20 name(x@22)@22-23 any@25-26 int(-1)@29-31)@20-32"},
		{"m.A(B(x), C)", "make(m@20 A@22 make(B@24 name(x@26)@26-27)@24-28 make(C@30)@30-31)@20-32"},
		{"A()", "make(A@20 missing@22-22)@20-23"},
		{"A( , x", "make(A@20 missing@22-22 name(x@25)@25-26)@20-26"},
		{"A(x ,", "make(A@20 name(x@22)@22-23 missing@25-25)@20-25"},
		{"A(=", "make(A@20 missing@22-22)@20-22"},
		{"x(y)", "name(x@20)@20-21"},
		{"", "missing@21-21"},
	} {
		text := "def f() = match x { " + c[0] + " => 1 };"
		if got := showPattern(said(t, text).Defs[0].Body.Cases[0].Pattern); got != c[1] {
			t.Errorf("%q has the pattern\n%s, not\n%s", text, got, c[1])
		}
		agrees(t, text)
		agrees(t, strings.TrimSuffix(text, " => 1 };"))
	}
}

// P8.1, P8.3: right sources by chance, against what their author knows that they say.
func TestAuthor(t *testing.T) {
	someSources(3000, func(_ *rand.Rand, text string, want api.Module, notes []api.Note) {
		if got := said(t, text); !isSame(got, want) {
			t.Errorf("%s says\n%s, not\n%s", short(text), show(got), show(want))
		}
		got, e := view.Numbers(parsed(t, text))
		if numbers := got[:len(got):len(got)]; e != api.OK || showNotes(only(numbers, api.CodeNumber)) != showNotes(notes) {
			t.Errorf("Numbers of %s: %s, %d, not %s", short(text), showNotes(got), e, showNotes(notes))
		}
	})
}

// only returns the notes of a code.
func only(notes []api.Note, code int) []api.Note {
	var some []api.Note
	for _, n := range notes {
		if n.Code == code {
			some = append(some, n)
		}
	}
	return some
}

// P8.1, P8.3: broken sources by chance, and all short ones after beginnings of all sorts, against the model.
func TestAgainstModel(t *testing.T) {
	someBroken(3000, func(_ *rand.Rand, text string) { agrees(t, text) })
	parts := list("(", ")", ",", "=", " ", "x", "A", ".", ":", "-", "1", "{", "=>", "match", ";")
	for _, begin := range []string{"type T", "type T = A(", "def f", "def f(", "def f() : ", "def f() = ", "def f() = fn", "def f() = match x { ", "def f() = match x { A("} {
		all(parts, 2, func(end string) { agrees(t, begin+end) })
	}
}

// all calls visit with all strings of at most most parts, with and without blanks between them.
func all(parts []string, most int, visit func(s string)) {
	var add func(s string, left int)
	add = func(s string, left int) {
		visit(s)
		if left == 0 {
			return
		}
		for _, p := range parts {
			add(s+p, left-1)
			add(s+" "+p, left-1)
		}
	}
	add("", most)
}

// P8.1: strings as long as they may be, with as many levels as there may be.
func TestLimits(t *testing.T) {
	begin, end := "def f() = ", ";"
	room := api.MaxText - len(begin) - len(end)
	for _, c := range []struct {
		what, text string
	}{
		{"many items", strings.Repeat("import a;", api.MaxText/9)},
		{"a long sum", begin + "1" + strings.Repeat("+1", (room-1)/2) + end},
		{"many calls", begin + "f" + strings.Repeat("()", (room-1)/2) + end},
		{"many arguments", begin + "f(1" + strings.Repeat(",1", (room-4)/2) + ")" + end},
		{"many brackets", begin + strings.Repeat("(", room) + end},
		{"deep brackets", begin + strings.Repeat("(", 99) + "1" + strings.Repeat(")", 99) + end},
		{"brackets that are too deep", begin + strings.Repeat("(", 101) + "1" + strings.Repeat(")", 101) + end},
		{"deep matches", begin + strings.Repeat("match x { A(B) => ", 98) + "1" + strings.Repeat("}", 98) + end},
		{"many signs", begin + strings.Repeat("-", room) + end},
		{"deep types", "type T = A(" + strings.Repeat("T[", 200)},
		{"many variants", "type T = A" + strings.Repeat("|A", 9000) + ";"},
		{"what is no item", strings.Repeat("1 ", api.MaxText/2)},
	} {
		n := parsed(t, c.text)
		want, e := view.Of(n)
		if got := said(t, c.text); !view.Same(got, want) || e != api.OK {
			t.Errorf("%s: Text and Of differ, %d", c.what, e)
		}
		if moved := view.Move(want, 5); !view.Same(view.Move(moved, -5), want) || view.Same(moved, want) != (c.what == "what is no item") {
			t.Errorf("%s: moved there and back", c.what)
		}
		for _, name := range view.Names(want) {
			if c.text[name.Span.From:name.Span.To] != name.Text {
				t.Errorf("%s: %v", c.what, name)
			}
		}
	}
	sum := said(t, begin+"1"+strings.Repeat("+1", (room-1)/2)+end).Defs[0].Body
	depth := 0
	for sum.Kind == api.ExBinary {
		sum = sum.Kids[0]
		depth++
	}
	if depth != (room-1)/2 {
		t.Errorf("a long sum has %d signs", depth)
	}
	if m, e := view.Text(strings.Repeat(" ", api.MaxText)); !isSame(m, api.Module{}) || e != api.OK {
		t.Errorf("a string as long as may be: %s, %d", show(m), e)
	}
}
