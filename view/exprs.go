package view

import (
	"strconv"

	"marginalia/api"
	"marginalia/token"
)

// expr returns the expression that a part is: of an NdMissing there is only its span.
func (p part) expr() api.Expr {
	e := api.Expr{Span: p.core}
	switch p.Kind {
	case api.NdLiteral:
		return p.literal()
	case api.NdName:
		return p.named()
	case api.NdCall:
		return p.calls()
	case api.NdBinary:
		return p.operations()
	case api.NdParen:
		e = p.kids[1].expr()
		e.Span = p.core
	case api.NdIf:
		e.Kind, e.Kids = api.ExIf, p.exprs(1, 3, 5)
	case api.NdLet:
		e.Kind, e.Name, e.Kids = api.ExLet, p.kids[1].name(), p.exprs(3, 5)
	case api.NdFn:
		e.Kind, e.Params, e.Kids = api.ExFn, p.kids[1].params(), p.exprs(3)
	case api.NdMatch:
		e.Kind, e.Kids, e.Cases = api.ExMatch, p.exprs(1), each(p.kidsOf(api.NdCase), part.caseOfMatch)
	case api.NdUnary:
		e.Kind, e.Name, e.Kids = api.ExUnary, p.kids[0].name(), p.exprs(1)
	}
	return e
}

// exprs returns the expressions that some kids are.
func (p part) exprs(indexes ...int) []api.Expr {
	var all []api.Expr
	for _, i := range indexes {
		all = append(all, p.kids[i].expr())
	}
	return all
}

func (p part) literal() api.Expr {
	e := api.Expr{Span: p.core}
	switch leaf := p.kids[0].Token; leaf.Kind {
	case api.TkInt:
		e.Kind = api.ExInt
		e.Int, _ = p.number()
	case api.TkText:
		e.Kind = api.ExText
		e.Text, _ = token.Unquote(leaf)
	default:
		e.Kind, e.Int = api.ExBool, bit(leaf)
	}
	return e
}

// bit returns the number that stands for a word true or false.
func bit(word api.Token) int64 {
	if word.Text == "true" {
		return 1
	}
	return 0
}

// number returns the number that the leaves of a part are, a sign and digits, and whether it is there and not too large.
func (p part) number() (int64, bool) {
	written := ""
	for _, kid := range p.kids {
		written += kid.Token.Text
	}
	n, err := strconv.ParseInt(written, 10, 64)
	if err != nil {
		return 0, false
	}
	return n, true
}

func (p part) named() api.Expr {
	module, name, _, _ := p.qualified()
	e := api.Expr{Kind: api.ExName, Module: module, Name: name, Span: p.core}
	if token.Great(p.kids[len(p.kids)-1].Token) {
		e.Kind = api.ExMake
	}
	return e
}

// calls returns what each pair of brackets makes of all that is before it.
func (p part) calls() api.Expr {
	e := p.kids[0].expr()
	for _, args := range p.kids[1:] {
		s := api.Span{From: e.Span.From, To: args.core.To}
		kids := append([]api.Expr{e}, each(between(args.kids), part.expr)...)
		e = api.Expr{Kind: api.ExCall, Kids: kids, Span: s}
	}
	return e
}

// operations returns what each sign makes of all that is before it and the operand after it.
func (p part) operations() api.Expr {
	e := p.kids[0].expr()
	for i := 1; i < len(p.kids); i += 2 {
		last := p.kids[i+1].expr()
		s := api.Span{From: e.Span.From, To: last.Span.To}
		e = api.Expr{Kind: api.ExBinary, Name: p.kids[i].name(), Kids: []api.Expr{e, last}, Span: s}
	}
	return e
}

func (p part) caseOfMatch() api.Case {
	return api.Case{Pattern: p.kids[0].pattern(), Body: p.kids[2].expr()}
}

// pattern returns the pattern that a part is: of an NdMissing there is only its span.
func (p part) pattern() api.Pattern {
	made := api.Pattern{Span: p.core}
	if p.Kind == api.NdMissing {
		return made
	}
	switch leaf := p.kids[0].Token; leaf.Kind {
	case api.TkName:
		return p.namedPattern()
	case api.TkText:
		made.Kind = api.PtText
		made.Text, _ = token.Unquote(leaf)
	case api.TkWord:
		made.Kind, made.Int = api.PtBool, bit(leaf)
	default:
		made.Kind = api.PtInt
		made.Int, _ = p.number()
	}
	return made
}

func (p part) namedPattern() api.Pattern {
	module, name, after, isSmallAlone := p.qualified()
	if isSmallAlone && name.Text == "_" {
		return api.Pattern{Kind: api.PtAny, Span: p.core}
	}
	made := api.Pattern{Kind: api.PtMake, Module: module, Name: name, Span: p.core}
	if isSmallAlone {
		made.Kind = api.PtName
	}
	for _, kids := range after {
		made.Kids = each(between(kids.kids), part.pattern)
	}
	return made
}
