package view_test

import (
	"math/rand"
	"strconv"
	"strings"

	"marginalia/api"
	"marginalia/token"
)

// author writes right sources by chance, and what they say: it knows where it writes what.
type author struct {
	r     *rand.Rand
	text  strings.Builder
	end   int // where the last solid token ends
	last  string
	count int // of solid tokens
	notes []api.Note
}

var someTrivia = list(" ", " ", " ", "  ", "\n", "\t", "\r\n", "// r\n", " // \"\n", "\n//\n")

// say writes a solid token, with trivia before it, perhaps, or where it would not be one otherwise, and returns its span.
func (a *author) say(part string) api.Span {
	if a.r.Intn(3) == 0 || !canTouch(a.last, part) {
		a.text.WriteString(someTrivia[a.r.Intn(len(someTrivia))])
	}
	from := a.text.Len()
	a.text.WriteString(part)
	a.last, a.end = part, a.text.Len()
	a.count++
	return api.Span{From: from, To: a.end}
}

// canTouch says no rather than find out: only brackets, commas and semicolons are sure to stay what they are.
func canTouch(a, b string) bool {
	alone := func(s string) bool { return s != "" && strings.Trim(s, "()[]{},;") == "" }
	return alone(a) || alone(b) && !strings.HasPrefix(a, "//")
}

func (a *author) since(from int) api.Span { return api.Span{From: from, To: a.end} }

func (a *author) oneOf(parts ...string) string { return parts[a.r.Intn(len(parts))] }

func (a *author) chance(of int) bool { return a.r.Intn(of) == 0 }

func (a *author) name(parts ...string) api.Name {
	part := a.oneOf(parts...)
	return api.Name{Text: part, Span: a.say(part)}
}

func (a *author) small() api.Name { return a.name("a", "b", "f", "xs", "_", "_1", "aB") }

func (a *author) great() api.Name { return a.name("A", "List", "T1", "Z_") }

// several writes one thing or more, with a sign between them.
func (a *author) several(sign string, thing func()) {
	thing()
	for a.chance(2) {
		a.say(sign)
		thing()
	}
}

// perhaps writes no things, or several.
func (a *author) perhaps(thing func()) {
	if !a.chance(3) {
		a.several(",", thing)
	}
}

// qualifier writes a module's name and a dot, perhaps.
func (a *author) qualifier() api.Name {
	if !a.chance(3) {
		return api.Name{}
	}
	module := a.small()
	a.say(".")
	return module
}

func (a *author) item(m *api.Module) {
	switch a.r.Intn(5) {
	case 0:
		a.say("import")
		m.Imports = append(m.Imports, a.small())
		a.say(";")
	case 1:
		m.Types = append(m.Types, a.typeDef())
	default:
		m.Defs = append(m.Defs, a.def())
	}
}

func (a *author) typeDef() api.TypeDef {
	from := a.say("type").From
	made := api.TypeDef{Name: a.great()}
	if a.chance(2) {
		a.say("[")
		a.several(",", func() { made.Params = append(made.Params, a.small()) })
		a.say("]")
	}
	a.say("=")
	a.several("|", func() {
		v := api.Variant{Name: a.great()}
		if a.chance(2) {
			a.say("(")
			a.several(",", func() { v.Fields = append(v.Fields, a.written(2)) })
			a.say(")")
		}
		made.Variants = append(made.Variants, v)
	})
	a.say(";")
	made.Span = a.since(from)
	return made
}

func (a *author) def() api.Def {
	from := a.say("def").From
	made := api.Def{Name: a.small(), Params: a.params()}
	if a.chance(2) {
		a.say(":")
		made.Result = a.written(3)
	}
	a.say("=")
	made.Body = a.expr(4)
	a.say(";")
	made.Span = a.since(from)
	return made
}

func (a *author) params() []api.Param {
	var params []api.Param
	a.say("(")
	a.perhaps(func() {
		p := api.Param{Name: a.small()}
		if a.chance(3) {
			a.say(":")
			p.Type = a.written(2)
		}
		params = append(params, p)
	})
	a.say(")")
	return params
}

func (a *author) written(most int) api.Written {
	switch {
	case most > 0 && a.chance(4):
		made := api.Written{Kind: api.WtFn}
		from := a.say("(").From
		a.perhaps(func() { made.Args = append(made.Args, a.written(most-1)) })
		a.say(")")
		a.say("->")
		made.Args = append(made.Args, a.written(most-1))
		made.Span = a.since(from)
		return made
	case a.chance(3):
		n := a.small()
		return api.Written{Kind: api.WtVar, Name: n, Span: n.Span}
	}
	made := api.Written{Kind: api.WtName, Module: a.qualifier()}
	made.Name = a.great()
	if most > 0 && a.chance(2) {
		a.say("[")
		a.several(",", func() { made.Args = append(made.Args, a.written(most-1)) })
		a.say("]")
	}
	made.Span = a.since(begin(made.Module, made.Name))
	return made
}

// begin returns where a name begins, with the module before it, if it is there.
func begin(module, name api.Name) int {
	if module.Text != "" {
		return module.Span.From
	}
	return name.Span.From
}

// expr writes an expression: what has no end of its own is at the end of one, as nothing after it would be outside of it.
func (a *author) expr(most int) api.Expr {
	if a.count > 150 {
		most = 0
	}
	if most > 0 && a.chance(2) {
		return a.open(most - 1)
	}
	if most > 0 && a.chance(4) {
		first := a.operand(most)
		return a.operation(first, a.oneOf("+", "*", "&&", "||", "<"), func() api.Expr { return a.open(most - 1) })
	}
	return a.operators(most, 1)
}

// operation writes a sign and what is after it.
func (a *author) operation(first api.Expr, sign string, operand func() api.Expr) api.Expr {
	made := api.Expr{Kind: api.ExBinary, Name: a.name(sign)}
	made.Kids = list(first, operand())
	made.Span = a.since(first.Span.From)
	return made
}

func (a *author) open(most int) api.Expr {
	var made api.Expr
	kid := func() { made.Kids = append(made.Kids, a.expr(most)) }
	from := 0
	switch a.r.Intn(4) {
	case 0:
		made.Kind = api.ExIf
		from = a.say("if").From
		kid()
		a.say("then")
		kid()
		a.say("else")
		kid()
	case 1:
		made.Kind = api.ExLet
		from = a.say("let").From
		made.Name = a.small()
		a.say("=")
		kid()
		a.say("in")
		kid()
	case 2:
		made.Kind = api.ExFn
		from = a.say("fn").From
		made.Params = a.params()
		a.say("=>")
		kid()
	case 3:
		return a.match(most)
	}
	made.Span = a.since(from)
	return made
}

func (a *author) match(most int) api.Expr {
	made := api.Expr{Kind: api.ExMatch}
	from := a.say("match").From
	made.Kids = list(a.expr(most))
	a.say("{")
	a.several(",", func() {
		c := api.Case{Pattern: a.pattern(2)}
		a.say("=>")
		c.Body = a.expr(most)
		made.Cases = append(made.Cases, c)
	})
	a.say("}")
	made.Span = a.since(from)
	return made
}

func (a *author) pattern(most int) api.Pattern {
	switch {
	case a.chance(6):
		return api.Pattern{Kind: api.PtAny, Span: a.say("_")}
	case a.chance(5):
		n := a.name("a", "xs", "_1")
		return api.Pattern{Kind: api.PtName, Name: n, Span: n.Span}
	case a.chance(4):
		value, s := a.literal()
		made := api.Pattern{Kind: value.Kind - api.ExInt + api.PtInt, Int: value.Int, Text: value.Text}
		made.Span = s
		return made
	case a.chance(3):
		from := a.say("-").From
		digits := a.oneOf("0", "1", "007", "9223372036854775808", "9223372036854775809")
		made := api.Pattern{Kind: api.PtInt, Int: a.int("-", digits)}
		made.Span = a.since(from)
		return made
	}
	made := api.Pattern{Kind: api.PtMake, Module: a.qualifier()}
	made.Name = a.great()
	if most > 0 && a.chance(2) {
		a.say("(")
		a.several(",", func() { made.Kids = append(made.Kids, a.pattern(most-1)) })
		a.say(")")
	}
	made.Span = a.since(begin(made.Module, made.Name))
	return made
}

func (a *author) operators(most, level int) api.Expr {
	signs := strings.Fields([]string{"||", "&&", "== <", "+ -", "*"}[level-1])
	operand := func() api.Expr {
		if level == 5 {
			return a.signed(most)
		}
		return a.operators(most, level+1)
	}
	made := operand()
	for again := a.chance(5); again; again = level != 3 && a.chance(3) {
		made = a.operation(made, a.oneOf(signs...), operand)
	}
	return made
}

func (a *author) signed(most int) api.Expr {
	if !a.chance(6) {
		return a.operand(most)
	}
	made := api.Expr{Kind: api.ExUnary, Name: a.name("-", "!")}
	made.Kids = list(a.signed(most))
	made.Span = a.since(made.Name.Span.From)
	return made
}

func (a *author) operand(most int) api.Expr {
	made := a.simple(most)
	for most > 0 && a.chance(4) {
		call := api.Expr{Kind: api.ExCall, Kids: list(made)}
		a.say("(")
		a.perhaps(func() { call.Kids = append(call.Kids, a.expr(most-1)) })
		a.say(")")
		call.Span = a.since(made.Span.From)
		made = call
	}
	return made
}

func (a *author) simple(most int) api.Expr {
	switch {
	case most > 0 && a.chance(5):
		from := a.say("(").From
		made := a.expr(most - 1)
		a.say(")")
		made.Span = a.since(from)
		return made
	case a.chance(2):
		made, s := a.literal()
		made.Span = s
		return made
	}
	made := api.Expr{Kind: api.ExName, Module: a.qualifier(), Name: a.name("a", "B", "f", "C")}
	if isGreat(made.Name) {
		made.Kind = api.ExMake
	}
	made.Span = a.since(begin(made.Module, made.Name))
	return made
}

func (a *author) literal() (api.Expr, api.Span) {
	var made api.Expr
	switch a.r.Intn(3) {
	case 0:
		digits := a.oneOf("0", "1", "42", "007", "9223372036854775807", "9223372036854775808", "99999999999999999999")
		made.Kind, made.Int = api.ExInt, a.int("", digits)
		return made, api.Span{From: a.end - len(digits), To: a.end}
	case 1:
		made.Kind, made.Text = api.ExText, a.oneOf("", "t", "a\nb", "\"\\", "// x", "\xff")
		quoted, _ := token.Quote(made.Text)
		return made, a.say(quoted)
	}
	made.Kind, made.Int = api.ExBool, int64(a.r.Intn(2))
	return made, a.say(list("false", "true")[made.Int])
}

// int writes digits, and returns the number that they are after a sign, or 0 with a note.
func (a *author) int(sign, digits string) int64 {
	s := a.say(digits)
	n, err := strconv.ParseInt(sign+digits, 10, 64)
	if err != nil {
		a.notes = append(a.notes, api.Note{Code: api.CodeNumber, Span: s})
		return 0
	}
	return n
}

// anyParts are solid tokens of all sorts.
var anyParts = strings.Fields(`import type def let in if then else match fn true false ( ) [ ] { } , ; : = | . + - * < ! -> => == && || a b _ A B 0 1 9999999999999999999 "t" # "x`)

// broken changes tokens by chance: one is lost, put in place of another one, put in, or two are exchanged.
func broken(r *rand.Rand, text string) string {
	var parts []string
	tokens, _ := token.Lex(text)
	for _, t := range tokens {
		parts = append(parts, t.Text)
	}
	for range 1 + r.Intn(4) {
		if len(parts) == 0 {
			break
		}
		i, k := r.Intn(len(parts)), r.Intn(len(parts))
		other := " " + anyParts[r.Intn(len(anyParts))] + " "
		switch r.Intn(5) {
		case 0, 1:
			parts = append(parts[:i], parts[i+1:]...)
		case 2:
			parts[i] = other
		case 3:
			parts = append(parts[:i], append(list(other), parts[i:]...)...)
		case 4:
			parts[i], parts[k] = parts[k], parts[i]
		}
	}
	return strings.Join(parts, "")
}

// someSources calls visit with right sources of a few items, always the same ones, and what they say.
func someSources(count int, visit func(r *rand.Rand, text string, m api.Module, notes []api.Note)) {
	r := rand.New(rand.NewSource(8))
	for range count {
		var m api.Module
		a := &author{r: r, last: ";"}
		for range r.Intn(4) {
			a.item(&m)
		}
		visit(r, a.text.String(), m, a.notes)
	}
}

// someBroken calls visit with sources that have lost their form here or there, and with tokens of all sorts without any order.
func someBroken(count int, visit func(r *rand.Rand, text string)) {
	someSources(count, func(r *rand.Rand, text string, _ api.Module, _ []api.Note) {
		text = broken(r, text)
		if r.Intn(4) == 0 {
			text = text[:r.Intn(len(text)+1)]
		}
		visit(r, text)
	})
	r := rand.New(rand.NewSource(88))
	for range count {
		a := &author{r: r, last: ";"}
		a.say(a.oneOf("import", "type", "type T =", "def", "def f() =", "def f() = match x {", "def f("))
		for range r.Intn(12) {
			a.say(a.oneOf(anyParts...))
		}
		visit(r, a.text.String())
	}
}
