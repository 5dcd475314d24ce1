package style_test

import (
	"testing"

	"marginalia/api"
	"marginalia/style"
)

// looks holds the styled string of a string against what is written out for it, which is its own styled string.
func looks(t *testing.T, text, want string) {
	t.Helper()
	for _, s := range list(text, want) {
		if got, e := style.Style(s); got != want || e != api.OK {
			t.Errorf("Style of %q: %d and\n%s\nnot\n%s", s, e, got, want)
		}
		if is, e := style.IsStyled(s); is != (s == want) || e != api.OK {
			t.Errorf("IsStyled of %q: %t, %d", s, is, e)
		}
		agrees(t, s)
	}
}

// P9.1: the chapter's example.
func TestExample(t *testing.T) {
	looks(t, "def f( x )=x+1 ;def g()=f( 2 );", "def f(x) = x + 1;\n\ndef g() = f(2);\n")
}

// P9.1, rule 1: a part of the root begins a new line.
func TestPartsOnLines(t *testing.T) {
	looks(t, "import a;import b; x y;import c; ; ;", "import a;\nimport b;\nx y;\nimport c;\n;\n;\n")
	looks(t, "import a x import b", "import a\nx\nimport b\n")
	looks(t, "def f( = 1 def g() = 2 } ;", "def f(= 1\n\ndef g() = 2\n};\n")
	looks(t, "import\na\n\n;\n", "import a;\n")
}

// P9.1, rule 1: an empty line is before each type and definition, and before other parts of the root if there is one in the string; nowhere else.
func TestEmptyLines(t *testing.T) {
	looks(t, "import a;type T=A;def f()=1;import b;x;type U=B;y", "import a;\n\ntype T = A;\n\ndef f() = 1;\nimport b;\nx;\n\ntype U = B;\ny\n")
	looks(t, "import a;\nimport b;\n\nimport c;\n\n\n\nimport d;\n \t\r\nimport e; \n \n ;\n;\n\n;", "import a;\nimport b;\n\nimport c;\n\nimport d;\n\nimport e;\n\n;\n;\n\n;\n")
	looks(t, "import a;\r\nimport b;\r\n\r\nimport c;\r\rimport d;", "import a;\nimport b;\n\nimport c;\nimport d;\n")
	looks(t, "\n\nimport a;\n\n\n", "import a;\n")
	looks(t, "\n\n\ndef f() = 1;\n\n\ndef\n\ng()\n\n\n=\n\n2;", "def f() = 1;\n\ndef g() = 2;\n")
	looks(t, "def f() = match x {\n\n  a => 1,\n\n  b => 2\n\n};", "def f() = match x {\n  a => 1,\n  b => 2\n};\n")
	looks(t, "x\n\ny;\n\n\"z\n\nw;", "x y;\n\n\"z\nw;\n")
}

// P9.1, rule 1: remarks on lines of their own directly before a type or a definition belong to it.
func TestRemarksOfItems(t *testing.T) {
	looks(t, "// r\ndef f() = 1;", "// r\ndef f() = 1;\n")
	looks(t, "// q\n// r\ntype T = A;", "// q\n// r\ntype T = A;\n")
	looks(t, "// q\n\n// r\ntype T = A;", "// q\n\n// r\ntype T = A;\n")
	looks(t, "// r\n\ndef f() = 1;", "// r\n\ndef f() = 1;\n")
	looks(t, "import a;\n// r\ndef f() = 1;", "import a;\n\n// r\ndef f() = 1;\n")
	looks(t, "import a;\n// q\n // r \n\tdef f() = 1;", "import a;\n\n// q\n// r\ndef f() = 1;\n")
	looks(t, "import a;\n// q\n\n// r\ndef f() = 1;", "import a;\n// q\n\n// r\ndef f() = 1;\n")
	looks(t, "import a;\n\n// q\n\n// r\n\ndef f() = 1;", "import a;\n// q\n// r\n\ndef f() = 1;\n")
	looks(t, "import a; // q\ndef f() = 1;", "import a;  // q\n\ndef f() = 1;\n")
	looks(t, "import a; // q\n// r\ndef f() = 1;", "import a;  // q\n\n// r\ndef f() = 1;\n")
	looks(t, "import a; // q\n\n\n// r\n\n\ndef f() = 1;", "import a;  // q\n// r\n\ndef f() = 1;\n")
	looks(t, "def // q\n// r\ndef // s\n", "def  // q\n\n// r\ndef  // s\n")
	looks(t, "def def", "def\n\ndef\n")
}

// P9.1, rule 1: remarks belong to imports and NdErrors, too: an empty line before the first one of them stays there.
func TestRemarksOfOtherParts(t *testing.T) {
	looks(t, "import a;\n// r\nimport b;\n// s\n\nimport c;", "import a;\n// r\nimport b;\n// s\n\nimport c;\n")
	looks(t, "import a;\n\n\n// r\nimport b;\n\n\n\n// s\n// t\nx;", "import a;\n\n// r\nimport b;\n\n// s\n// t\nx;\n")
	looks(t, "import a;\n\n// r\n\n// s\n\nimport b;", "import a;\n// r\n// s\n\nimport b;\n")
	looks(t, "import a;\n\n// r\n\n// s\nimport b;", "import a;\n// r\n\n// s\nimport b;\n")
	looks(t, "import a; // r\n\n// s\nimport b;", "import a;  // r\n\n// s\nimport b;\n")
	looks(t, "import a; // r\n// s\nimport b;", "import a;  // r\n// s\nimport b;\n")
	looks(t, "\n\n// r\nimport a;\n\n// s", "// r\nimport a;\n// s\n")
	looks(t, "// r\n\n\nimport b; // s\n\n\n// t\n\n", "// r\n\nimport b;  // s\n// t\n")
	looks(t, "// r\nx;\n// s\ny", "// r\nx;\n// s\ny\n")
}

// P9.1, rules 1 and 3: remarks at ends of lines and on lines of their own, wherever they are.
func TestRemarks(t *testing.T) {
	looks(t, "//", "//\n")
	looks(t, " // a \t\r\n\n\n//\t\t\n", "// a\n//\n")
	looks(t, "// a\tb\r c \r", "// a\tb\r c\n")
	looks(t, "def f(x)=// a\n1//b\n;//c", "def f(x) =  // a\n1  //b\n;  //c\n")
	looks(t, "def f(//a\nx,\n//b\n\n\n//c\ny)=1;", "def f(  //a\nx,\n//b\n//c\ny) = 1;\n")
	looks(t, "def f() = a . // r\nb;", "def f() = a.  // r\nb;\n")
	looks(t, "def f() = - // r\n1;", "def f() = -  // r\n1;\n")
	looks(t, "def f() = \"// no\"// yes\n;", "def f() = \"// no\"  // yes\n;\n")
	looks(t, "import a; // b\n // c\nimport d;", "import a;  // b\n// c\nimport d;\n")
	looks(t, "def f() = match x { // a\n b => 1, // c\n // d\n e => 2 // f\n // g\n};", "def f() = match x {\n  // a\n  b => 1,\n  // c\n  // d\n  e => 2  // f\n  // g\n};\n")
	looks(t, "def f() = match // a\nx // b\n{ c => // d\n1 // e\n, d => 2 } // f\n;", "def f() = match  // a\nx  // b\n{\n  c =>  // d\n  1  // e\n  ,\n  d => 2\n}  // f\n;\n")
}

// P9.1, rules 1 and 2: matches, in one another, and without some of their signs.
func TestMatches(t *testing.T) {
	looks(t, "def f() = match x{a=>1,b=>2};", "def f() = match x {\n  a => 1,\n  b => 2\n};\n")
	looks(t, "def f() = match x{a=>match y{b=>1,c=>2},d=>3};", "def f() = match x {\n  a => match y {\n    b => 1,\n    c => 2\n  },\n  d => 3\n};\n")
	looks(t, "def f() = match match x{a=>1}{b=>(match y{c=>2})(3)};", "def f() = match match x {\n  a => 1\n} {\n  b => (match y {\n    c => 2\n  })(3)\n};\n")
	looks(t, "def f() = g(1, match x{a=>h(2,3),B(c,d)=>4}, 5);", "def f() = g(1, match x {\n  a => h(2, 3),\n  B(c, d) => 4\n}, 5);\n")
	looks(t, "def f() = match x { };", "def f() = match x {\n};\n")
	looks(t, "def f() = match x {", "def f() = match x {\n")
	looks(t, "def f() = match x { a => 1, b => 2; def g() = 1;", "def f() = match x {\n  a => 1,\n  b => 2;\n\ndef g() = 1;\n")
	looks(t, "def f() = match x a => 1, b => 2 };", "def f() = match x a => 1,\nb => 2\n};\n")
	looks(t, "def f() = match x a => match y { b => 1, c => 2 }, d => 3 };", "def f() = match x a => match y {\n  b => 1,\n  c => 2\n},\nd => 3\n};\n")
	looks(t, "def f() = match x { a => match y { b => 1", "def f() = match x {\n  a => match y {\n    b => 1\n")
	looks(t, "x { a, b };", "x { a, b };\n")
}

// P9.1, rule 2: what stands after a brace, in a match that has no end, is in it: its end is that of the node, whatever follows.
func TestMatchesWithoutEnd(t *testing.T) {
	looks(t, "def f() = match x {\n// r\nimport a;", "def f() = match x {\n  // r\nimport a;\n")
	looks(t, "def f() = match x {\n// r\ndef g() = 1;", "def f() = match x {\n\n  // r\ndef g() = 1;\n")
	looks(t, "def f() = match x { // r\ndef g() = 1;", "def f() = match x {\n  // r\n\ndef g() = 1;\n")
	looks(t, "def f() = match x { a => 1\n// r\n;", "def f() = match x {\n  a => 1\n// r\n;\n")
	looks(t, "def f() = match x { a => 1,\n// r\n;", "def f() = match x {\n  a => 1,\n  // r\n;\n")
}

// P9.1, rule 1: after a string without an end a new line begins, and the blanks at its end stay.
func TestOpenStrings(t *testing.T) {
	looks(t, "\"a \t \nb \"c\n\n\n// d\n\"e  ", "\"a \t \nb \"c\n// d\n\"e  \n")
	looks(t, "def f() = \"a;\n1", "def f() =\n\"a;\n1\n")
	looks(t, "x # \"a\" y", "x # \"a\" y\n")
	looks(t, "\"\\x\"\n#\"", "\"\\x\"\n# \"\n")
}

// P9.1, rule 3: what has blanks between it, and what has none.
func TestOnOneLine(t *testing.T) {
	looks(t, "type  T[a,b]=A|B(Int,m.U[a , B[c]])|C;", "type T[a, b] = A | B(Int, m.U[a, B[c]]) | C;\n")
	looks(t, "type T[a ,b ]=A|B ( ( )->Int,(a,( b )->c)->m . U [ a,T [b] ] );", "type T[a, b] = A | B(() -> Int, (a, (b) -> c) -> m.U[a, T[b]]);\n")
	looks(t, "def f ( x :Int,y:( Int )->Bool,z ):T [a]=1;", "def f(x: Int, y: (Int) -> Bool, z): T[a] = 1;\n")
	looks(t, "def f()=if( a )then(1)else(2)||b&&c==d&&e<f+g-h*i;", "def f() = if (a) then (1) else (2) || b && c == d && e < f + g - h * i;\n")
	looks(t, "def f()=let x=1 in fn ( y )=>x+(y);", "def f() = let x = 1 in fn(y) => x + (y);\n")
	looks(t, "def f()=g (1) ( ) (h(2) ,m . n ( \"a\" ));", "def f() = g(1)()(h(2), m.n(\"a\"));\n")
	looks(t, "def f()=- 1- - 2- ! - ( ! a )* - b(- 1);", "def f() = -1 - -2 - !-(!a) * -b(-1);\n")
	looks(t, "def f()=match(x){- 1=>A ( 2 ),m . B ( - 3,_ ,C ( \"a\" ))=>(1),\"t\"=>- 1};", "def f() = match (x) {\n  -1 => A(2),\n  m.B(-3, _, C(\"a\")) => (1),\n  \"t\" => -1\n};\n")
	looks(t, "def f()=- match x{a=>1};", "def f() = -match x {\n  a => 1\n};\n")
	looks(t, "a ( b )c[ d ]e { f }g . h,i:j|-1!k->l=>m==n&&o||p<q=\"r\"s", "a (b) c[d] e { f } g.h, i: j | - 1 ! k -> l => m == n && o || p < q = \"r\" s\n")
	looks(t, "( ) [ ] { } , ;", "()[] { },;\n")
	looks(t, "\"a\"\"b\"1 2\"c\"d#&", "\"a\" \"b\" 1 2 \"c\" d #&\n")
	looks(t, "# & #& - > -> = > => | | || / /", "# & #& - > -> = > => | | || / /\n")
}
