package parse

import "marginalia/api"

func (p *parser) file() {
	for !p.isEnd() {
		switch p.next().Text {
		case "import":
			p.node(api.NdImport, p.importItem)
		case "type":
			p.node(api.NdTypeDef, p.typeItem)
		case "def":
			p.node(api.NdDef, p.defItem)
		default:
			p.node(api.NdError, p.noItem)
		}
	}
}

func (p *parser) isItemNext() bool {
	return p.is("import") || p.is("type") || p.is("def")
}

// noItem goes on to where an item may begin.
func (p *parser) noItem() {
	p.noteOnce(api.CodeItem, p.nextSpan())
	for ended := false; !ended && !p.isEnd() && !p.isItemNext(); {
		ended = p.is(";")
		p.take()
	}
}

func (p *parser) importItem() {
	p.take()
	p.expectSmall()
	p.expect(";")
}

func (p *parser) typeItem() {
	p.take()
	p.expectGreat()
	if p.is("[") {
		p.enclosed(api.NdVars, p.expectSmall, "]")
	}
	p.expect("=")
	p.list("|", func() { p.node(api.NdVariant, p.variant) })
	p.expect(";")
}

func (p *parser) variant() {
	p.expectGreat()
	if p.is("(") {
		p.enclosed(api.NdArgs, p.writtenType, ")")
	}
}

func (p *parser) defItem() {
	p.take()
	p.expectSmall()
	p.node(api.NdParams, p.params)
	p.typeAfterColon()
	p.expect("=")
	p.expression()
	p.expect(";")
}

func (p *parser) params() {
	p.expect("(")
	if p.isSmall() {
		p.list(",", func() { p.node(api.NdParam, p.param) })
	}
	p.expect(")")
}

func (p *parser) param() {
	p.expectSmall()
	p.typeAfterColon()
}

// enclosed makes a node of one thing or several, with commas between them, in brackets, the first of which is next.
func (p *parser) enclosed(kind int, thing func(), end string) {
	p.node(kind, func() {
		p.take()
		p.list(",", thing)
		p.expect(end)
	})
}

func (p *parser) typeAfterColon() {
	if p.takeIf(":") {
		p.writtenType()
	}
}

func (p *parser) writtenType() {
	p.inner(func() {
		switch {
		case p.is("("):
			p.node(api.NdTypeFn, p.functionType)
		case p.isName():
			p.node(api.NdTypeName, p.namedType)
		default:
			p.miss("type")
		}
	})
}

func (p *parser) functionType() {
	p.take()
	if p.is("(") || p.isName() {
		p.list(",", p.writtenType)
	}
	p.expect(")")
	p.expect("->")
	p.writtenType()
}

func (p *parser) namedType() {
	if p.greatName() && p.is("[") {
		p.enclosed(api.NdTypeArgs, p.writtenType, "]")
	}
}

// greatName takes a great name, perhaps after a module's, or a small name alone: it reports whether the last one is great.
func (p *parser) greatName() bool {
	isGreat := p.isGreat()
	p.take()
	if !isGreat && p.takeIf(".") {
		isGreat = p.isGreat()
		p.expectGreat()
	}
	return isGreat
}
