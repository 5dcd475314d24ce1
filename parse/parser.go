package parse

import (
	"cmp"
	"slices"

	"marginalia/api"
	"marginalia/token"
)

// parser goes through the tokens of a string and makes its tree.
type parser struct {
	rest   []api.Token // the tokens that are no leaves yet
	trivia int         // how many of them are trivia before the next token
	begin  int         // where the next token begins, or the end of the string
	end    int         // where the last token that was taken ends
	told   bool        // whether a thing that is expected was noted since it was taken
	depth  int         // how many expressions, types and patterns are around
	open   []api.Node  // the nodes that are open, the innermost one at the end
	notes  []api.Note
}

// parse returns the tree of tokens and its notes.
func parse(tokens []api.Token) (api.Node, []api.Note) {
	p := &parser{rest: tokens, open: []api.Node{{Kind: api.NdFile}}}
	p.seek()
	p.file()
	p.addTrivia()
	slices.SortStableFunc(p.notes, func(a, b api.Note) int {
		return cmp.Or(cmp.Compare(a.Span.From, b.Span.From), cmp.Compare(a.Span.To, b.Span.To), cmp.Compare(a.Code, b.Code))
	})
	return p.open[0], p.notes
}

// seek goes over trivia to the next token.
func (p *parser) seek() {
	for p.trivia < len(p.rest) && token.IsTrivia(p.rest[p.trivia]) {
		p.begin += len(p.rest[p.trivia].Text)
		p.trivia++
	}
}

// next returns the next token, or a zero one at the end.
func (p *parser) next() api.Token {
	if p.isEnd() {
		return api.Token{}
	}
	return p.rest[p.trivia]
}

func (p *parser) isEnd() bool { return p.trivia == len(p.rest) }

// is reports whether a word or a sign is next: tokens of other kinds never have their strings.
func (p *parser) is(text string) bool { return p.next().Text == text }

func (p *parser) isName() bool { return p.next().Kind == api.TkName }

func (p *parser) isGreat() bool { return token.Great(p.next()) }

func (p *parser) isSmall() bool { return p.isName() && !p.isGreat() }

// nextSpan returns the span of the next token, which is empty at the end.
func (p *parser) nextSpan() api.Span {
	return api.Span{From: p.begin, To: p.begin + len(p.next().Text)}
}

// add makes a Node the next kid of the innermost open node.
func (p *parser) add(kid api.Node) {
	inner := &p.open[len(p.open)-1]
	inner.Kids = append(inner.Kids, kid)
}

// addTrivia makes leaves of the trivia before the next token.
func (p *parser) addTrivia() {
	for _, t := range p.rest[:p.trivia] {
		p.add(api.Node{Kind: api.NdToken, Token: t})
	}
	p.rest = p.rest[p.trivia:]
	p.trivia = 0
}

// take makes leaves of the next token and the trivia before it.
func (p *parser) take() {
	t := p.next()
	if t.Kind == api.TkBad {
		p.note(api.CodeBad, p.nextSpan())
	}
	p.addTrivia()
	p.add(api.Node{Kind: api.NdToken, Token: t})
	p.rest = p.rest[1:]
	p.begin += len(t.Text)
	p.end = p.begin
	p.told = false
	p.seek()
}

// node opens a node, has it filled, and closes it.
func (p *parser) node(kind int, fill func()) {
	p.addTrivia()
	p.filled(api.Node{Kind: kind}, fill)
}

// wrap opens a node in place of the last kid, which becomes its first one, has it filled, and closes it.
func (p *parser) wrap(kind int, fill func()) {
	inner := &p.open[len(p.open)-1]
	last := len(inner.Kids) - 1
	wrapped := inner.Kids[last]
	inner.Kids = inner.Kids[:last]
	p.filled(api.Node{Kind: kind, Kids: []api.Node{wrapped}}, fill)
}

func (p *parser) filled(n api.Node, fill func()) {
	p.open = append(p.open, n)
	fill()
	last := len(p.open) - 1
	n = p.open[last]
	p.open = p.open[:last]
	p.add(n)
}

// inner makes an expression, a type or a pattern one level deeper than what is around it.
func (p *parser) inner(fill func()) {
	if p.depth == api.MaxNest {
		p.add(api.Node{Kind: api.NdMissing})
		p.note(api.CodeDeep, p.nextSpan())
		return
	}
	p.depth++
	fill()
	p.depth--
}

// list makes one thing, and as many more as a sign comes before.
func (p *parser) list(sign string, thing func()) {
	thing()
	for p.takeIf(sign) {
		thing()
	}
}

// takeIf takes a word or a sign if it is next.
func (p *parser) takeIf(text string) bool {
	isNext := p.is(text)
	if isNext {
		p.take()
	}
	return isNext
}

func (p *parser) expect(text string) { p.takeOrMiss(p.is(text), text) }

func (p *parser) expectSmall() { p.takeOrMiss(p.isSmall(), "small") }

func (p *parser) expectGreat() { p.takeOrMiss(p.isGreat(), "great") }

func (p *parser) takeOrMiss(isNext bool, thing string) {
	if isNext {
		p.take()
	} else {
		p.miss(thing)
	}
}

// miss says that something is expected that is not there.
func (p *parser) miss(thing string) {
	p.add(api.Node{Kind: api.NdMissing})
	p.noteOnce(api.CodeExpected, api.Span{From: p.end, To: p.end}, thing)
}

func (p *parser) note(code int, s api.Span, args ...string) {
	p.notes = append(p.notes, api.Note{Code: code, Span: s, Args: args})
}

// noteOnce notes that something is expected if nothing was noted to be since the last token was taken.
func (p *parser) noteOnce(code int, s api.Span, args ...string) {
	if !p.told {
		p.note(code, s, args...)
	}
	p.told = true
}
