package parse

import "marginalia/api"

// The levels of operators that are not like the others, of 1 to tightest.
const (
	comparing = 3
	tightest  = 5
)

func levelOf(sign string) int {
	switch sign {
	case "||":
		return 1
	case "&&":
		return 2
	case "==", "<":
		return comparing
	case "+", "-":
		return 4
	case "*":
		return tightest
	}
	return 0
}

func (p *parser) expression() {
	p.inner(func() {
		switch p.next().Text {
		case "if":
			p.node(api.NdIf, p.conditional)
		case "let":
			p.node(api.NdLet, p.binding)
		case "fn":
			p.node(api.NdFn, p.function)
		case "match":
			p.node(api.NdMatch, p.matching)
		default:
			p.operators(1)
		}
	})
}

func (p *parser) conditional() {
	p.take()
	p.expression()
	p.expect("then")
	p.expression()
	p.expect("else")
	p.expression()
}

func (p *parser) binding() {
	p.take()
	p.expectSmall()
	p.expect("=")
	p.expression()
	p.expect("in")
	p.expression()
}

func (p *parser) function() {
	p.take()
	p.node(api.NdParams, p.params)
	p.expect("=>")
	p.expression()
}

func (p *parser) matching() {
	p.take()
	p.expression()
	p.expect("{")
	p.list(",", func() { p.node(api.NdCase, p.caseOfMatch) })
	p.expect("}")
}

func (p *parser) caseOfMatch() {
	p.pattern()
	p.expect("=>")
	p.expression()
}

// operators makes operands with the operators of a level, or of tighter ones, between them.
func (p *parser) operators(level int) {
	if level > tightest {
		p.signed()
		return
	}
	p.operators(level + 1)
	if !p.isOperator(level) {
		return
	}
	p.wrap(api.NdBinary, func() {
		for again := true; again && p.isOperator(level); again = level != comparing {
			p.take()
			p.operators(level + 1)
		}
	})
}

func (p *parser) isOperator(level int) bool { return levelOf(p.next().Text) == level }

// signed makes an operand, perhaps with signs before it.
func (p *parser) signed() {
	if !p.is("-") && !p.is("!") {
		p.calls()
		return
	}
	p.node(api.NdUnary, func() {
		p.take()
		p.inner(p.signed)
	})
}

func (p *parser) calls() {
	p.simple()
	if !p.is("(") {
		return
	}
	p.wrap(api.NdCall, func() {
		for p.is("(") {
			p.node(api.NdArgs, p.args)
		}
	})
}

func (p *parser) args() {
	p.take()
	if !p.is(")") {
		p.list(",", p.expression)
	}
	p.expect(")")
}

func (p *parser) simple() {
	switch {
	case p.isLiteral():
		p.node(api.NdLiteral, p.take)
	case p.isName():
		p.node(api.NdName, p.name)
	case p.is("("):
		p.node(api.NdParen, p.paren)
	case p.is("if"), p.is("let"), p.is("fn"), p.is("match"):
		p.expression()
	default:
		p.miss("expression")
	}
}

func (p *parser) isLiteral() bool {
	kind := p.next().Kind
	return kind == api.TkInt || kind == api.TkText || p.is("true") || p.is("false")
}

func (p *parser) name() {
	isSmall := p.isSmall()
	p.take()
	if isSmall && p.takeIf(".") {
		p.takeOrMiss(p.isName(), "name")
	}
}

func (p *parser) paren() {
	p.take()
	p.expression()
	p.expect(")")
}

func (p *parser) pattern() {
	p.inner(func() {
		switch {
		case p.isLiteral():
			p.node(api.NdPattern, p.take)
		case p.is("-"):
			p.node(api.NdPattern, p.negative)
		case p.isName():
			p.node(api.NdPattern, p.namedPattern)
		default:
			p.miss("pattern")
		}
	})
}

func (p *parser) negative() {
	p.take()
	p.takeOrMiss(p.next().Kind == api.TkInt, "int")
}

func (p *parser) namedPattern() {
	if p.greatName() && p.is("(") {
		p.enclosed(api.NdPatterns, p.pattern, ")")
	}
}
