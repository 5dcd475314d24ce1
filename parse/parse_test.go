package parse_test

import (
	"math/rand"
	"strings"
	"testing"

	"marginalia/api"
)

// parses holds the tree of a string, and its notes.
func parses(t *testing.T, text, want, notes string) {
	t.Helper()
	n, got := parsed(t, text)
	if s := show(n); s != want {
		t.Errorf("the tree of %s is\n%s, not\n%s", short(text), s, want)
	}
	if s := showNotes(got); s != notes {
		t.Errorf("the notes of %s are\n%s, not\n%s", short(text), s, notes)
	}
	agrees(t, text)
}

// P6.1: the chapter's examples.
func TestExamples(t *testing.T) {
	parses(t, "def f(x) = x + 1;", "File[Def[def ~ f Params[( Param[x] )] ~ = ~ Binary[Name[x] ~ + ~ Literal[1]] ;]]", "")
	parses(t, "def f( = 1", "File[Def[def ~ f Params[( ?] ~ = ~ Literal[1] ?]]", "expected 6 ), expected 10 ;")
	parses(t, "x y; import a;", "File[Error[x ~ y ;] ~ Import[import ~ a ;]]", "item 0-1")
}

// P6.1: files, and what is no item.
func TestFiles(t *testing.T) {
	for _, c := range []struct{ text, want, notes string }{
		{"", "File[]", ""},
		{" \n", "File[~]", ""},
		{"// r", "File[// r]", ""},
		{" // r\n\n", "File[~ // r ~]", ""},
		{"import a;", "File[Import[import ~ a ;]]", ""},
		{" import a ; // r\n", "File[~ Import[import ~ a ~ ;] ~ // r ~]", ""},
		{"import a;import b;", "File[Import[import ~ a ;] Import[import ~ b ;]]", ""},
		{"x", "File[Error[x]]", "item 0-1"},
		{";", "File[Error[;]]", "item 0-1"},
		{";;", "File[Error[;] Error[;]]", "item 0-1, item 1-2"},
		{" x y // r\n z ; ;", "File[~ Error[x ~ y ~ // r ~ z ~ ;] ~ Error[;]]", "item 1-2, item 15-16"},
		{"x y import a;", "File[Error[x ~ y] ~ Import[import ~ a ;]]", "item 0-1"},
		{"x type", "File[Error[x] ~ TypeDef[type ? ? Variant[?] ?]]", "item 0-1, expected 6 great"},
		{"x def", "File[Error[x] ~ Def[def ? Params[? ?] ? ? ?]]", "item 0-1, expected 5 small"},
		{"x let y ) ( match \n", "File[Error[x ~ let ~ y ~ ) ~ ( ~ match] ~]", "item 0-1"},
		{"imports a;", "File[Error[imports ~ a ;]]", "item 0-7"},
		{"Def", "File[Error[Def]]", "item 0-3"},
		{"import a x;", "File[Import[import ~ a ?] ~ Error[x ;]]", "expected 8 ;"},
		{"import a x; y;", "File[Import[import ~ a ?] ~ Error[x ;] ~ Error[y ;]]", "expected 8 ;, item 12-13"},
		{"import a; x; import b;", "File[Import[import ~ a ;] ~ Error[x ;] ~ Import[import ~ b ;]]", "item 10-11"},
	} {
		parses(t, c.text, c.want, c.notes)
	}
}

// P6.1: bad tokens are noted each, besides what is noted of where they stand.
func TestBadTokens(t *testing.T) {
	for _, c := range []struct{ text, want, notes string }{
		{"#", "File[Error[#]]", "bad 0-1, item 0-1"},
		{"#$ \"x", "File[Error[#$ ~ \"x]]", "bad 0-2, item 0-2, bad 3-5"},
		{"x #; &", "File[Error[x ~ # ;] ~ Error[&]]", "item 0-1, bad 2-3, bad 5-6, item 5-6"},
		{"import #a;", "File[Import[import ? ?] ~ Error[# a ;]]", "expected 6 small, bad 7-8"},
		{"import a#;", "File[Import[import ~ a ?] Error[# ;]]", "expected 8 ;, bad 8-9"},
		{"def f() = #1;", "File[Def[def ~ f Params[( )] ~ = ? ?] ~ Error[# 1 ;]]", "expected 9 expression, bad 10-11"},
		{"def f() = \"a\n;", "File[Def[def ~ f Params[( )] ~ = ? ?] ~ Error[\"a ~ ;]]", "expected 9 expression, bad 10-12"},
		{"import \"a\n// r\ndef", "File[Import[import ? ?] ~ Error[\"a] ~ // r ~ Def[def ? Params[? ?] ? ? ?]]", "expected 6 small, bad 7-9, expected 18 small"},
	} {
		parses(t, c.text, c.want, c.notes)
	}
}

// P6.1: imports.
func TestImports(t *testing.T) {
	for _, c := range []struct{ text, want, notes string }{
		{"import", "File[Import[import ? ?]]", "expected 6 small"},
		{"import ;", "File[Import[import ? ~ ;]]", "expected 6 small"},
		{"import a", "File[Import[import ~ a ?]]", "expected 8 ;"},
		{"import a // r\n", "File[Import[import ~ a ?] ~ // r ~]", "expected 8 ;"},
		{"import A;", "File[Import[import ? ?] ~ Error[A ;]]", "expected 6 small"},
		{"import 1;", "File[Import[import ? ?] ~ Error[1 ;]]", "expected 6 small"},
		{"import in;", "File[Import[import ? ?] ~ Error[in ;]]", "expected 6 small"},
		{"import _;", "File[Import[import ~ _ ;]]", ""},
		{"import import a;", "File[Import[import ? ?] ~ Import[import ~ a ;]]", "expected 6 small"},
		{"import a.b;", "File[Import[import ~ a ?] Error[. b ;]]", "expected 8 ;"},
	} {
		parses(t, c.text, c.want, c.notes)
	}
}

// P6.1: types' definitions.
func TestTypeItems(t *testing.T) {
	for _, c := range []struct{ text, want, notes string }{
		{"type T=A;", "File[TypeDef[type ~ T = Variant[A] ;]]", ""},
		{"type T = A | B(Int) ;", "File[TypeDef[type ~ T ~ = ~ Variant[A] ~ | ~ Variant[B Args[( TypeName[Int] )]] ~ ;]]", ""},
		{"type T[a]=A(a,b.C);", "File[TypeDef[type ~ T Vars[[ a ]] = Variant[A Args[( TypeName[a] , TypeName[b . C] )]] ;]]", ""},
		{"type T [ a , b ] = A ( a ) | B;", "File[TypeDef[type ~ T ~ Vars[[ ~ a ~ , ~ b ~ ]] ~ = ~ Variant[A ~ Args[( ~ TypeName[a] ~ )]] ~ | ~ Variant[B] ;]]", ""},
		{"type", "File[TypeDef[type ? ? Variant[?] ?]]", "expected 4 great"},
		{"type ", "File[TypeDef[type ? ? ~ Variant[?] ?]]", "expected 4 great"},
		{"type t = A;", "File[TypeDef[type ? ? ~ Variant[?] ?] Error[t ~ = ~ A ;]]", "expected 4 great"},
		{"type T[] = A;", "File[TypeDef[type ~ T Vars[[ ? ]] ~ = ~ Variant[A] ;]]", "expected 7 small"},
		{"type T[A] = A;", "File[TypeDef[type ~ T Vars[[ ? ?] ? Variant[A] ?] Error[] ~ = ~ A ;]]", "expected 7 small, expected 8 ;"},
		{"type T[a,] = A;", "File[TypeDef[type ~ T Vars[[ a , ? ]] ~ = ~ Variant[A] ;]]", "expected 9 small"},
		{"type T[a b] = A;", "File[TypeDef[type ~ T Vars[[ a ?] ? ~ Variant[?] ?] Error[b ] ~ = ~ A ;]]", "expected 8 ]"},
		{"type T[a = A;", "File[TypeDef[type ~ T Vars[[ a ?] ~ = ~ Variant[A] ;]]", "expected 8 ]"},
		{"type T A;", "File[TypeDef[type ~ T ? ~ Variant[A] ;]]", "expected 6 ="},
		{"type T = ;", "File[TypeDef[type ~ T ~ = ~ Variant[?] ;]]", "expected 8 great"},
		{"type T = a;", "File[TypeDef[type ~ T ~ = ~ Variant[?] ?] Error[a ;]]", "expected 8 great"},
		{"type T = | A;", "File[TypeDef[type ~ T ~ = ~ Variant[?] | ~ Variant[A] ;]]", "expected 8 great"},
		{"type T = A |;", "File[TypeDef[type ~ T ~ = ~ Variant[A] ~ | Variant[?] ;]]", "expected 12 great"},
		{"type T = A || B;", "File[TypeDef[type ~ T ~ = ~ Variant[A] ?] ~ Error[|| ~ B ;]]", "expected 10 ;"},
		{"type T = A();", "File[TypeDef[type ~ T ~ = ~ Variant[A Args[( ? )]] ;]]", "expected 11 type"},
		{"type T = A(Int,);", "File[TypeDef[type ~ T ~ = ~ Variant[A Args[( TypeName[Int] , ? )]] ;]]", "expected 15 type"},
		{"type T = A(Int;", "File[TypeDef[type ~ T ~ = ~ Variant[A Args[( TypeName[Int] ?]] ;]]", "expected 14 )"},
		{"type T = A Int;", "File[TypeDef[type ~ T ~ = ~ Variant[A] ?] ~ Error[Int ;]]", "expected 10 ;"},
		{"type T = (Int);", "File[TypeDef[type ~ T ~ = ~ Variant[? Args[( TypeName[Int] )]] ;]]", "expected 8 great"},
		{"type T = A", "File[TypeDef[type ~ T ~ = ~ Variant[A] ?]]", "expected 10 ;"},
	} {
		parses(t, c.text, c.want, c.notes)
	}
}

// P6.1: definitions, their parameters and what is missing in them.
func TestDefItems(t *testing.T) {
	for _, c := range []struct{ text, want, notes string }{
		{"def f()=1;", "File[Def[def ~ f Params[( )] = Literal[1] ;]]", ""},
		{"def f ( a , b : Int ) : c = 1 ;", "File[Def[def ~ f ~ Params[( ~ Param[a] ~ , ~ Param[b ~ : ~ TypeName[Int]] ~ )] ~ : ~ TypeName[c] ~ = ~ Literal[1] ~ ;]]", ""},
		{"def", "File[Def[def ? Params[? ?] ? ? ?]]", "expected 3 small"},
		{"def // r\n", "File[Def[def ? ~ // r ~ Params[? ?] ? ? ?]]", "expected 3 small"},
		{"def f // r\n", "File[Def[def ~ f ~ // r ~ Params[? ?] ? ? ?]]", "expected 5 ("},
		{"def f() ", "File[Def[def ~ f Params[( )] ? ? ?] ~]", "expected 7 ="},
		{"def = 1;", "File[Def[def ? ~ Params[? ?] = ~ Literal[1] ;]]", "expected 3 small"},
		{"def F() = 1;", "File[Def[def ? ~ Params[? ?] ? Call[Name[F] Args[( )]] ?] ~ Error[= ~ 1 ;]]", "expected 3 small, expected 7 ;"},
		{"def f = 1;", "File[Def[def ~ f ~ Params[? ?] = ~ Literal[1] ;]]", "expected 5 ("},
		{"def f x = 1;", "File[Def[def ~ f ~ Params[? Param[x] ?] ~ = ~ Literal[1] ;]]", "expected 5 (, expected 7 )"},
		{"def f x, y) = 1;", "File[Def[def ~ f ~ Params[? Param[x] , ~ Param[y] )] ~ = ~ Literal[1] ;]]", "expected 5 ("},
		{"def f) = 1;", "File[Def[def ~ f Params[? )] ~ = ~ Literal[1] ;]]", "expected 5 ("},
		{"def f(A) = 1;", "File[Def[def ~ f Params[( ?] ? Name[A] ?] Error[) ~ = ~ 1 ;]]", "expected 6 ), expected 7 ;"},
		{"def f(,) = 1;", "File[Def[def ~ f Params[( ?] ? ? ?] Error[, ) ~ = ~ 1 ;]]", "expected 6 )"},
		{"def f(x,) = 1;", "File[Def[def ~ f Params[( Param[x] , Param[?] )] ~ = ~ Literal[1] ;]]", "expected 8 small"},
		{"def f(x,,y) = 1;", "File[Def[def ~ f Params[( Param[x] , Param[?] , Param[y] )] ~ = ~ Literal[1] ;]]", "expected 8 small"},
		{"def f(x, : Int) = 1;", "File[Def[def ~ f Params[( Param[x] , ~ Param[? : ~ TypeName[Int]] )] ~ = ~ Literal[1] ;]]", "expected 8 small"},
		{"def f(x y) = 1;", "File[Def[def ~ f Params[( Param[x] ?] ? ~ Name[y] ?] Error[) ~ = ~ 1 ;]]", "expected 7 ), expected 9 ;"},
		{"def f(x:) = 1;", "File[Def[def ~ f Params[( Param[x : ?] )] ~ = ~ Literal[1] ;]]", "expected 8 type"},
		{"def f(x: 1) = 1;", "File[Def[def ~ f Params[( Param[x : ?] ?] ? ~ Literal[1] ?] Error[) ~ = ~ 1 ;]]", "expected 8 type, expected 10 ;"},
		{"def f(): = 1;", "File[Def[def ~ f Params[( )] : ? ~ = ~ Literal[1] ;]]", "expected 8 type"},
		{"def f() 1;", "File[Def[def ~ f Params[( )] ? ~ Literal[1] ;]]", "expected 7 ="},
		{"def f() == 1;", "File[Def[def ~ f Params[( )] ? Binary[? ~ == ~ Literal[1]] ;]]", "expected 7 ="},
		{"def f() = ;", "File[Def[def ~ f Params[( )] ~ = ? ~ ;]]", "expected 9 expression"},
		{"def f() = 1 2;", "File[Def[def ~ f Params[( )] ~ = ~ Literal[1] ?] ~ Error[2 ;]]", "expected 11 ;"},
		{"def f() = 1\ndef g() = 2;", "File[Def[def ~ f Params[( )] ~ = ~ Literal[1] ?] ~ Def[def ~ g Params[( )] ~ = ~ Literal[2] ;]]", "expected 11 ;"},
		{"def f(\ntype T = A;", "File[Def[def ~ f Params[( ?] ? ? ?] ~ TypeDef[type ~ T ~ = ~ Variant[A] ;]]", "expected 6 )"},
	} {
		parses(t, c.text, c.want, c.notes)
	}
}

// between holds the tree of what stands in a string between a beginning and an end: it is written into a frame in place of the %, and offsets of notes are counted from its own beginning.
func between(t *testing.T, begin, text, end, frame, want, notes string) {
	t.Helper()
	whole := begin + text + end
	n, got := parsed(t, whole)
	if s := show(n); s != strings.Replace(frame, "%", want, 1) {
		t.Errorf("the tree of %s is\n%s, not\n%s in %s", short(whole), s, want, frame)
	}
	for i := range got {
		got[i].Span.From -= len(begin)
		got[i].Span.To -= len(begin)
	}
	if s := showNotes(got); s != notes {
		t.Errorf("the notes of %s, from %d on, are\n%s, not\n%s", short(whole), len(begin), s, notes)
	}
	agrees(t, whole)
}

// P6.1: written types.
func TestTypes(t *testing.T) {
	for _, c := range []struct{ text, want, notes string }{
		{"a", "TypeName[a]", ""},
		{"Int", "TypeName[Int]", ""},
		{"m.T", "TypeName[m . T]", ""},
		{"m . T", "TypeName[m ~ . ~ T]", ""},
		{"T[a]", "TypeName[T TypeArgs[[ TypeName[a] ]]]", ""},
		{"T [ a ]", "TypeName[T ~ TypeArgs[[ ~ TypeName[a] ~ ]]]", ""},
		{"m.T[a,U[b],()->c]", "TypeName[m . T TypeArgs[[ TypeName[a] , TypeName[U TypeArgs[[ TypeName[b] ]]] , TypeFn[( ) -> TypeName[c]] ]]]", ""},
		{"()->a", "TypeFn[( ) -> TypeName[a]]", ""},
		{"( a , b ) -> c", "TypeFn[( ~ TypeName[a] ~ , ~ TypeName[b] ~ ) ~ -> ~ TypeName[c]]", ""},
		{"(a)->(b)->c", "TypeFn[( TypeName[a] ) -> TypeFn[( TypeName[b] ) -> TypeName[c]]]", ""},
		{"((a)->b)->c", "TypeFn[( TypeFn[( TypeName[a] ) -> TypeName[b]] ) -> TypeName[c]]", ""},
		{"m.", "TypeName[m . ?]", "expected 2 great"},
		{"T[]", "TypeName[T TypeArgs[[ ? ]]]", "expected 2 type"},
		{"T[a", "TypeName[T TypeArgs[[ TypeName[a] ?]]", "expected 3 ]"},
		{"T[a,]", "TypeName[T TypeArgs[[ TypeName[a] , ? ]]]", "expected 4 type"},
		{"T[,a]", "TypeName[T TypeArgs[[ ? , TypeName[a] ]]]", "expected 2 type"},
		{"(a)", "TypeFn[( TypeName[a] ) ? ?]", "expected 3 ->"},
		{"(a)->", "TypeFn[( TypeName[a] ) -> ?]", "expected 5 type"},
		{"(a b", "TypeFn[( TypeName[a] ? ? ~ TypeName[b]]", "expected 2 )"},
		{"(a->b", "TypeFn[( TypeName[a] ? -> TypeName[b]]", "expected 2 )"},
		{"(a,)->b", "TypeFn[( TypeName[a] , ? ) -> TypeName[b]]", "expected 3 type"},
		{"()", "TypeFn[( ) ? ?]", "expected 2 ->"},
		{"()a", "TypeFn[( ) ? TypeName[a]]", "expected 2 ->"},
		{"(->a", "TypeFn[( ? -> TypeName[a]]", "expected 1 )"},
	} {
		between(t, "type T=A(Int,", c.text, ");", "File[TypeDef[type ~ T = Variant[A Args[( TypeName[Int] , % )]] ;]]", c.want, c.notes)
	}
	parses(t, "def f():a[b]=1;", "File[Def[def ~ f Params[( )] : TypeName[a] ? ? ?] Error[[ b ] = 1 ;]]", "expected 9 =")
	parses(t, "def f():(, a)->b=1;", "File[Def[def ~ f Params[( )] : TypeFn[( ? ? ?] ? ? ?] Error[, ~ a ) -> b = 1 ;]]", "expected 9 )")
	parses(t, "def f():a.b=1;", "File[Def[def ~ f Params[( )] : TypeName[a . ?] ? Name[b] ?] Error[= 1 ;]]", "expected 10 great, expected 11 ;")
	parses(t, "def f():A.B=1;", "File[Def[def ~ f Params[( )] : TypeName[A] ? ? ?] Error[. B = 1 ;]]", "expected 9 =")
	parses(t, "def f():1=1;", "File[Def[def ~ f Params[( )] : ? ? Literal[1] ?] Error[= 1 ;]]", "expected 8 type, expected 9 ;")
	parses(t, "def f():(", "File[Def[def ~ f Params[( )] : TypeFn[( ? ? ?] ? ? ?]]", "expected 9 )")
	parses(t, "type T=A(m.[a]);", "File[TypeDef[type ~ T = Variant[A Args[( TypeName[m . ?] ?]] ?] Error[[ a ] ) ;]]", "expected 11 great")
}

// P6.1: expressions.
func TestExpressions(t *testing.T) {
	for _, c := range []struct{ text, want, notes string }{
		{"1", "Literal[1]", ""},
		{`"a\n"`, `Literal["a\n"]`, ""},
		{"true", "Literal[true]", ""},
		{"false", "Literal[false]", ""},
		{"x", "Name[x]", ""},
		{"X", "Name[X]", ""},
		{"_", "Name[_]", ""},
		{"m.x", "Name[m . x]", ""},
		{"m.X", "Name[m . X]", ""},
		{"m . x", "Name[m ~ . ~ x]", ""},
		{"m.", "Name[m . ?]", "expected 2 name"},
		{"(x)", "Paren[( Name[x] )]", ""},
		{"( ( x ) )", "Paren[( ~ Paren[( ~ Name[x] ~ )] ~ )]", ""},
		{"", "?", "expected 0 expression"},
		{"()", "Paren[( ? )]", "expected 1 expression"},
		{"(x", "Paren[( Name[x] ?]", "expected 2 )"},
		{"f()", "Call[Name[f] Args[( )]]", ""},
		{"f ( x , 1 ) ( )", "Call[Name[f] ~ Args[( ~ Name[x] ~ , ~ Literal[1] ~ )] ~ Args[( ~ )]]", ""},
		{"m.f(x)", "Call[Name[m . f] Args[( Name[x] )]]", ""},
		{"1(2)", "Call[Literal[1] Args[( Literal[2] )]]", ""},
		{"(f)(x)", "Call[Paren[( Name[f] )] Args[( Name[x] )]]", ""},
		{"f(,)", "Call[Name[f] Args[( ? , ? )]]", "expected 2 expression, expected 3 expression"},
		{"f(x,)", "Call[Name[f] Args[( Name[x] , ? )]]", "expected 4 expression"},
		{"f(x", "Call[Name[f] Args[( Name[x] ?]]", "expected 3 )"},
		{"f(", "Call[Name[f] Args[( ? ?]]", "expected 2 expression"},
		{"f(x)(", "Call[Name[f] Args[( Name[x] )] Args[( ? ?]]", "expected 5 expression"},
		{"-x", "Unary[- Name[x]]", ""},
		{"! x", "Unary[! ~ Name[x]]", ""},
		{"-!-x", "Unary[- Unary[! Unary[- Name[x]]]]", ""},
		{"-f(x)", "Unary[- Call[Name[f] Args[( Name[x] )]]]", ""},
		{"-", "Unary[- ?]", "expected 1 expression"},
		{"a+-b", "Binary[Name[a] + Unary[- Name[b]]]", ""},
		{"-a-b", "Binary[Unary[- Name[a]] - Name[b]]", ""},
		{"a-b-c", "Binary[Name[a] - Name[b] - Name[c]]", ""},
		{"a+b-c+d", "Binary[Name[a] + Name[b] - Name[c] + Name[d]]", ""},
		{"a*b*c", "Binary[Name[a] * Name[b] * Name[c]]", ""},
		{"a+b*c-d", "Binary[Name[a] + Binary[Name[b] * Name[c]] - Name[d]]", ""},
		{"a*b+c*d", "Binary[Binary[Name[a] * Name[b]] + Binary[Name[c] * Name[d]]]", ""},
		{"a == b", "Binary[Name[a] ~ == ~ Name[b]]", ""},
		{"a<b+1", "Binary[Name[a] < Binary[Name[b] + Literal[1]]]", ""},
		{"a||b||c", "Binary[Name[a] || Name[b] || Name[c]]", ""},
		{"a&&b&&c", "Binary[Name[a] && Name[b] && Name[c]]", ""},
		{"a&&b||c&&d", "Binary[Binary[Name[a] && Name[b]] || Binary[Name[c] && Name[d]]]", ""},
		{"a||b&&c==d+e*-f(g)", "Binary[Name[a] || Binary[Name[b] && Binary[Name[c] == Binary[Name[d] + Binary[Name[e] * Unary[- Call[Name[f] Args[( Name[g] )]]]]]]]]", ""},
		{"a*b+c==d&&e||f", "Binary[Binary[Binary[Binary[Binary[Name[a] * Name[b]] + Name[c]] == Name[d]] && Name[e]] || Name[f]]", ""},
		{"a<b&&c==d", "Binary[Binary[Name[a] < Name[b]] && Binary[Name[c] == Name[d]]]", ""},
		{"a+", "Binary[Name[a] + ?]", "expected 2 expression"},
		{"+a", "Binary[? + Name[a]]", "expected 0 expression"},
		{"a++b", "Binary[Name[a] + ? + Name[b]]", "expected 2 expression"},
		{"*", "Binary[? * ?]", "expected 0 expression, expected 1 expression"},
		{"a ||", "Binary[Name[a] ~ || ?]", "expected 4 expression"},
		{"a-!", "Binary[Name[a] - Unary[! ?]]", "expected 3 expression"},
		{"if a then b else c", "If[if ~ Name[a] ~ then ~ Name[b] ~ else ~ Name[c]]", ""},
		{"if a then if b then c else d else e", "If[if ~ Name[a] ~ then ~ If[if ~ Name[b] ~ then ~ Name[c] ~ else ~ Name[d]] ~ else ~ Name[e]]", ""},
		{"if a then b else c+d", "If[if ~ Name[a] ~ then ~ Name[b] ~ else ~ Binary[Name[c] + Name[d]]]", ""},
		{"if", "If[if ? ? ? ? ?]", "expected 2 expression"},
		{"if a", "If[if ~ Name[a] ? ? ? ?]", "expected 4 then"},
		{"if a then b", "If[if ~ Name[a] ~ then ~ Name[b] ? ?]", "expected 11 else"},
		{"if a b else c", "If[if ~ Name[a] ? ~ Name[b] ~ else ~ Name[c]]", "expected 4 then"},
		{"if a else c", "If[if ~ Name[a] ? ? ~ else ~ Name[c]]", "expected 4 then"},
		{"if then else", "If[if ? ~ then ? ~ else ?]", "expected 2 expression, expected 7 expression, expected 12 expression"},
		{"let a=b in c", "Let[let ~ a = Name[b] ~ in ~ Name[c]]", ""},
		{"let a = let b = c in d in e", "Let[let ~ a ~ = ~ Let[let ~ b ~ = ~ Name[c] ~ in ~ Name[d]] ~ in ~ Name[e]]", ""},
		{"let", "Let[let ? ? ? ? ?]", "expected 3 small"},
		{"let = b in c", "Let[let ? ~ = ~ Name[b] ~ in ~ Name[c]]", "expected 3 small"},
		{"let a = b c", "Let[let ~ a ~ = ~ Name[b] ? ~ Name[c]]", "expected 9 in"},
		{"let a == b in c", "Let[let ~ a ? Binary[? ~ == ~ Name[b]] ~ in ~ Name[c]]", "expected 5 ="},
		{"fn()=>1", "Fn[fn Params[( )] => Literal[1]]", ""},
		{"fn ( a , b : Int ) => a", "Fn[fn ~ Params[( ~ Param[a] ~ , ~ Param[b ~ : ~ TypeName[Int]] ~ )] ~ => ~ Name[a]]", ""},
		{"fn", "Fn[fn Params[? ?] ? ?]", "expected 2 ("},
		{"fn x => x", "Fn[fn ~ Params[? Param[x] ?] ~ => ~ Name[x]]", "expected 2 (, expected 4 )"},
		{"fn() x", "Fn[fn Params[( )] ? ~ Name[x]]", "expected 4 =>"},
		{"fn()=>fn()=>a(b)", "Fn[fn Params[( )] => Fn[fn Params[( )] => Call[Name[a] Args[( Name[b] )]]]]", ""},
		{"a+if b then c else d+e", "Binary[Name[a] + If[if ~ Name[b] ~ then ~ Name[c] ~ else ~ Binary[Name[d] + Name[e]]]]", ""},
		{"-let a=b in c*d", "Unary[- Let[let ~ a = Name[b] ~ in ~ Binary[Name[c] * Name[d]]]]", ""},
		{"!fn()=>a", "Unary[! Fn[fn Params[( )] => Name[a]]]", ""},
		{"a*match b{c=>d}*e", "Binary[Name[a] * Match[match ~ Name[b] { Case[Pattern[c] => Name[d]] }] * Name[e]]", ""},
		{"-match b{c=>d}(e)", "Unary[- Call[Match[match ~ Name[b] { Case[Pattern[c] => Name[d]] }] Args[( Name[e] )]]]", ""},
	} {
		between(t, "def f()=", c.text, ";", "File[Def[def ~ f Params[( )] = % ;]]", c.want, c.notes)
	}
}

// P6.1: what an expression does not go on with ends it.
func TestExpressionsEnd(t *testing.T) {
	def := "File[Def[def ~ f Params[( )] = "
	for _, c := range []struct{ text, want, notes string }{
		{"a==b==c", "Binary[Name[a] == Name[b]] ?] Error[== c ;]]", "expected 12 ;"},
		{"a<b<c", "Binary[Name[a] < Name[b]] ?] Error[< c ;]]", "expected 11 ;"},
		{"a==b<c", "Binary[Name[a] == Name[b]] ?] Error[< c ;]]", "expected 12 ;"},
		{"a==b==c&&d", "Binary[Name[a] == Name[b]] ?] Error[== c && d ;]]", "expected 12 ;"},
		{"M.x", "Name[M] ?] Error[. x ;]]", "expected 9 ;"},
		{"m.1", "Name[m . ?] ?] Error[1 ;]]", "expected 10 name"},
		{"m.x.y", "Name[m . x] ?] Error[. y ;]]", "expected 11 ;"},
		{"m.if", "Name[m . ?] ?] Error[if ;]]", "expected 10 name"},
		{"f(a).b", "Call[Name[f] Args[( Name[a] )]] ?] Error[. b ;]]", "expected 12 ;"},
		{"a b", "Name[a] ?] ~ Error[b ;]]", "expected 9 ;"},
		{"a!b", "Name[a] ?] Error[! b ;]]", "expected 9 ;"},
		{"a)", "Name[a] ?] Error[) ;]]", "expected 9 ;"},
		{"(a,b)", "Paren[( Name[a] ?] ?] Error[, b ) ;]]", "expected 10 )"},
		{"f(a b)", "Call[Name[f] Args[( Name[a] ?]] ?] ~ Error[b ) ;]]", "expected 11 )"},
		{"a=>b", "Name[a] ?] Error[=> b ;]]", "expected 9 ;"},
		{"let A = b in c", "Let[let ? ? ~ Name[A] ? ?] ?] ~ Error[= ~ b ~ in ~ c ;]]", "expected 11 small, expected 13 in"},
		{"then a", "? ?] Error[then ~ a ;]]", "expected 8 expression"},
		{"match a{b=>c}(d)", "Match[match ~ Name[a] { Case[Pattern[b] => Name[c]] }] ?] Error[( d ) ;]]", "expected 21 ;"},
		{"match a{b=>c}+d", "Match[match ~ Name[a] { Case[Pattern[b] => Name[c]] }] ?] Error[+ d ;]]", "expected 21 ;"},
		{"-a(b)(c)-d!", "Binary[Unary[- Call[Name[a] Args[( Name[b] )] Args[( Name[c] )]]] - Name[d]] ?] Error[! ;]]", "expected 18 ;"},
	} {
		parses(t, "def f()="+c.text+";", def+c.want, c.notes)
	}
}

// P6.1: cases and patterns.
func TestMatches(t *testing.T) {
	for _, c := range []struct{ text, want, notes string }{
		{"1=>a", "Case[Pattern[1] => Name[a]]", ""},
		{`"t"=>a`, `Case[Pattern["t"] => Name[a]]`, ""},
		{"true=>a", "Case[Pattern[true] => Name[a]]", ""},
		{"false=>a", "Case[Pattern[false] => Name[a]]", ""},
		{"_=>a", "Case[Pattern[_] => Name[a]]", ""},
		{" x => a , y => b ", "~ Case[Pattern[x] ~ => ~ Name[a]] ~ , ~ Case[Pattern[y] ~ => ~ Name[b]] ~", ""},
		{"-1=>a", "Case[Pattern[- 1] => Name[a]]", ""},
		{"- 1=>a", "Case[Pattern[- ~ 1] => Name[a]]", ""},
		{"A=>a", "Case[Pattern[A] => Name[a]]", ""},
		{"m.A=>a", "Case[Pattern[m . A] => Name[a]]", ""},
		{"A(x)=>a", "Case[Pattern[A Patterns[( Pattern[x] )]] => Name[a]]", ""},
		{"m . A ( x , B(-1) )=>a", "Case[Pattern[m ~ . ~ A ~ Patterns[( ~ Pattern[x] ~ , ~ Pattern[B Patterns[( Pattern[- 1] )]] ~ )]] => Name[a]]", ""},
		{"a=>if b then c else d,e=>f", "Case[Pattern[a] => If[if ~ Name[b] ~ then ~ Name[c] ~ else ~ Name[d]]] , Case[Pattern[e] => Name[f]]", ""},
		{"a=>match b{c=>d},e=>f", "Case[Pattern[a] => Match[match ~ Name[b] { Case[Pattern[c] => Name[d]] }]] , Case[Pattern[e] => Name[f]]", ""},
		{"", "Case[? ? ?]", "expected 0 pattern"},
		{"a=>b,", "Case[Pattern[a] => Name[b]] , Case[? ? ?]", "expected 5 pattern"},
		{"=>b", "Case[? => Name[b]]", "expected 0 pattern"},
		{"a b", "Case[Pattern[a] ? ~ Name[b]]", "expected 1 =>"},
		{"a=>", "Case[Pattern[a] => ?]", "expected 3 expression"},
		{"a,b=>c", "Case[Pattern[a] ? ?] , Case[Pattern[b] => Name[c]]", "expected 1 =>"},
		{"-=>a", "Case[Pattern[- ?] => Name[a]]", "expected 1 int"},
		{"m.=>a", "Case[Pattern[m . ?] => Name[a]]", "expected 2 great"},
		{"A()=>a", "Case[Pattern[A Patterns[( ? )]] => Name[a]]", "expected 2 pattern"},
		{"A(x=>a", "Case[Pattern[A Patterns[( Pattern[x] ?]] => Name[a]]", "expected 3 )"},
		{"A(x,)=>a", "Case[Pattern[A Patterns[( Pattern[x] , ? )]] => Name[a]]", "expected 4 pattern"},
		{"a(x)", "Case[Pattern[a] ? Paren[( Name[x] )]]", "expected 1 =>"},
		{"m.(x)", "Case[Pattern[m . ?] ? Paren[( Name[x] )]]", "expected 2 great"},
		{"m.x", "Case[Pattern[m . ?] ? Name[x]]", "expected 2 great"},
		{"-x", "Case[Pattern[- ?] ? Name[x]]", "expected 1 int"},
	} {
		between(t, "def f()=match a{", c.text, "};", "File[Def[def ~ f Params[( )] = Match[match ~ Name[a] { % }] ;]]", c.want, c.notes)
	}
	def := "File[Def[def ~ f Params[( )] = "
	parses(t, "def f()=match", def+"Match[match ? ? Case[? ? ?] ?] ?]]", "expected 13 expression")
	parses(t, "def f()=match ", def+"Match[match ? ? ~ Case[? ? ?] ?] ?]]", "expected 13 expression")
	parses(t, "def f()=match{a=>b};", def+"Match[match ? { Case[Pattern[a] => Name[b]] }] ;]]", "expected 13 expression")
	parses(t, "def f()=match a b=>c};", def+"Match[match ~ Name[a] ? ~ Case[Pattern[b] => Name[c]] }] ;]]", "expected 15 {")
	parses(t, "def f()=match a{b=>c;", def+"Match[match ~ Name[a] { Case[Pattern[b] => Name[c]] ?] ;]]", "expected 20 }")
	parses(t, "def f()=match a{b=>c d=>e};", def+"Match[match ~ Name[a] { Case[Pattern[b] => Name[c]] ?] ?] ~ Error[d => e } ;]]", "expected 20 }")
	for _, c := range []struct{ text, want, notes string }{
		{"--1=>a};", "Pattern[- ?] ? Unary[- Literal[1]]] ?] ?] Error[=> a } ;]]", "expected 17 int, expected 19 }"},
		{"-true=>a};", "Pattern[- ?] ? Literal[true]] ?] ?] Error[=> a } ;]]", "expected 17 int, expected 21 }"},
		{`-"t"=>a};`, `Pattern[- ?] ? Literal["t"]] ?] ?] Error[=> a } ;]]`, "expected 17 int, expected 20 }"},
		{"!=>a};", "? ? Unary[! ?]] ?] ?] Error[=> a } ;]]", "expected 16 pattern, expected 17 expression"},
		{"(a)=>b};", "? ? Paren[( Name[a] )]] ?] ?] Error[=> b } ;]]", "expected 16 pattern, expected 19 }"},
		{"A.B=>b};", "Pattern[A] ? ?] ?] ?] Error[. B => b } ;]]", "expected 17 =>"},
	} {
		parses(t, "def f()=match a{"+c.text, def+"Match[match ~ Name[a] { Case["+c.want, c.notes)
	}
}

// P6.1, P6.2, P6.3: all short lists of tokens after beginnings of all sorts, against the model.
func TestShortAgainstModel(t *testing.T) {
	for _, c := range []struct{ begin, parts string }{
		{"", "import type def x T ; = ( #"},
		{"import", "a A ; . import , 1"},
		{"type ", "T a [ ] , = | ( ) ;"},
		{"type T=A", "( ) , a B . [ ] | ; ->"},
		{"def ", "f F ( ) , : = 1 ;"},
		{"def f(a:", "( ) , -> a B . [ ] ="},
		{"def f()=", "a B . 1 ( ) , ; if"},
		{"def f()=a ", "|| && == < + - * ! ( b"},
		{"def f()=", "if then else let in = a + ( )"},
		{"def f()=fn", "( ) a , : => B - ;"},
		{"def f()=match a", "{ } => , b 1 ( match"},
		{"def f()=match a{", "- 1 b B . ( ) , => }"},
	} {
		parts := strings.Fields(c.parts)
		var all func(text string, more int)
		all = func(text string, more int) {
			agrees(t, text)
			if more == 0 {
				return
			}
			for _, part := range parts {
				all(text+" "+part, more-1)
			}
		}
		all(c.begin, 4)
	}
}

// P6.1, P6.2, P6.3: right sources, broken ones, and such as are none at all, against the model.
func TestAgainstModel(t *testing.T) {
	hold := func(_ *rand.Rand, text string) { agrees(t, text) }
	someSources(1500, hold)
	someMess(1500, hold)
	someBytes(1500, hold)
}

// P6.1: a source that is cut anywhere.
func TestCutAnywhere(t *testing.T) {
	text := "import m; // r\ntype T[a] = A | B(m.T[a], (Int) -> a);\n\ndef f(x: Int, y): Bool =\n  if !x == 1 then let z = y(x, -2) in m.z else\n  match z { A => fn(a) => a || b.c, m.B(-1, _) => \"\\n\", _ => (1 + 2) * 3 };\n"
	for i := range len(text) + 1 {
		agrees(t, text[:i])
		agrees(t, text[i:])
		agrees(t, text[:i]+"def g() = 1;")
		agrees(t, text[:i]+"#"+text[i:])
	}
	if n, notes := parsed(t, text); n.Kind != api.NdFile || len(notes) > 0 {
		t.Errorf("the notes of what is not cut: %s", showNotes(notes))
	}
}
