package view_test

import (
	"cmp"
	"fmt"
	"math/big"
	"reflect"
	"slices"
	"strconv"
	"strings"
	"testing"

	"marginalia/api"
	"marginalia/parse"
	"marginalia/token"
	"marginalia/view"
)

// The models say again, in the plainest way, what the chapter says: the tests hold the package against them.

// thing is a leaf or a node, with the bytes that it holds.
type thing struct {
	kind     int
	token    api.Token
	from, to int
	kids     []thing
}

func thingOf(n api.Node, from int) thing {
	made := thing{kind: n.Kind, token: n.Token, from: from, to: from + len(n.Token.Text)}
	for _, kid := range n.Kids {
		k := thingOf(kid, made.to)
		made.kids = append(made.kids, k)
		made.to = k.to
	}
	return made
}

// model reads a tree as its grammar says, one kid after the other.
type model struct {
	solid []api.Span // of the whole string
	notes []api.Note // of numbers that are too large
}

// modelOf returns what a tree says, and its notes.
func modelOf(n api.Node) (api.Module, []api.Note) {
	var m model
	root := thingOf(n, 0)
	m.find(root)
	var made api.Module
	for _, item := range root.kids {
		q := m.open(item)
		switch item.kind {
		case api.NdImport:
			q.skip()
			made.Imports = append(made.Imports, q.name())
		case api.NdTypeDef:
			made.Types = append(made.Types, q.typeDef())
		case api.NdDef:
			made.Defs = append(made.Defs, q.def())
		}
	}
	notes := append(m.notes, modelCounts(reflect.ValueOf(made))...)
	slices.SortStableFunc(notes, func(a, b api.Note) int {
		return cmp.Or(a.Span.From-b.Span.From, a.Span.To-b.Span.To, a.Code-b.Code)
	})
	return made, notes
}

func isTrivia(t thing) bool { return t.token.Kind == api.TkBlank || t.token.Kind == api.TkRemark }

func (m *model) find(t thing) {
	if t.kind == api.NdToken && !isTrivia(t) {
		m.solid = append(m.solid, api.Span{From: t.from, To: t.to})
	}
	for _, kid := range t.kids {
		m.find(kid)
	}
}

// core looks for the solid tokens that are in a thing.
func (m *model) core(t thing) api.Span {
	core := api.Span{From: t.from, To: t.from}
	for _, s := range m.solid {
		if t.from <= s.From && s.To <= t.to {
			if core.From == core.To {
				core = s
			}
			core.To = s.To
		}
	}
	return core
}

// before looks for the last solid token before an offset.
func (m *model) before(offset int) api.Span {
	end := 0
	for _, s := range m.solid {
		if s.To <= offset {
			end = s.To
		}
	}
	return api.Span{From: end, To: end}
}

// queue is the kids of a thing that were not read yet.
type queue struct {
	*model
	own  thing
	left []thing
}

func (m *model) open(t thing) *queue {
	q := &queue{model: m, own: t}
	for _, kid := range t.kids {
		if !isTrivia(kid) {
			q.left = append(q.left, kid)
		}
	}
	return q
}

func (q *queue) skip() thing {
	first := q.left[0]
	q.left = q.left[1:]
	return first
}

func (q *queue) isNext(text string) bool { return len(q.left) > 0 && q.left[0].token.Text == text }

func (q *queue) isNode(kind int) bool { return len(q.left) > 0 && q.left[0].kind == kind }

func (q *queue) name() api.Name {
	t := q.skip()
	if t.kind == api.NdMissing {
		return api.Name{Span: q.before(t.from)}
	}
	return api.Name{Text: t.token.Text, Span: api.Span{From: t.from, To: t.to}}
}

// commas reads a thing, and as many more as commas or other signs come before.
func (q *queue) commas(sign string, read func()) {
	read()
	for q.isNext(sign) {
		q.skip()
		read()
	}
}

func (q *queue) typeDef() api.TypeDef {
	q.skip()
	made := api.TypeDef{Name: q.name(), Span: q.core(q.own)}
	if q.isNode(api.NdVars) {
		vars := q.open(q.skip())
		vars.skip()
		vars.commas(",", func() { made.Params = append(made.Params, vars.name()) })
	}
	q.skip()
	q.commas("|", func() {
		v := q.open(q.skip())
		variant := api.Variant{Name: v.name()}
		if v.isNode(api.NdArgs) {
			args := q.open(v.skip())
			args.skip()
			args.commas(",", func() { variant.Fields = append(variant.Fields, args.written()) })
		}
		made.Variants = append(made.Variants, variant)
	})
	return made
}

func (q *queue) def() api.Def {
	q.skip()
	made := api.Def{Name: q.name(), Span: q.core(q.own)}
	made.Params = q.params()
	made.Result = q.typeIfColon()
	q.skip()
	made.Body = q.expr()
	return made
}

func (q *queue) typeIfColon() api.Written {
	if !q.isNext(":") {
		return api.Written{}
	}
	q.skip()
	return q.written()
}

func (q *queue) params() []api.Param {
	var params []api.Param
	in := q.open(q.skip())
	in.skip()
	if in.isNode(api.NdParam) {
		in.commas(",", func() {
			p := q.open(in.skip())
			params = append(params, api.Param{Name: p.name(), Type: p.typeIfColon()})
		})
	}
	return params
}

func (q *queue) written() api.Written {
	own := q.skip()
	made := api.Written{Span: q.core(own)}
	in := q.open(own)
	if own.kind == api.NdTypeFn {
		made.Kind = api.WtFn
		in.skip()
		if in.isNode(api.NdTypeFn) || in.isNode(api.NdTypeName) || len(in.left) > 3 {
			in.commas(",", func() { made.Args = append(made.Args, in.written()) })
		}
		in.skip()
		in.skip()
		made.Args = append(made.Args, in.written())
	}
	if own.kind == api.NdTypeName {
		made.Kind = api.WtName
		made.Module, made.Name = in.qualified()
		if made.Module == (api.Name{}) && !isGreat(made.Name) {
			made.Kind = api.WtVar
		}
		if in.isNode(api.NdTypeArgs) {
			args := q.open(in.skip())
			args.skip()
			args.commas(",", func() { made.Args = append(made.Args, args.written()) })
		}
	}
	return made
}

func isGreat(n api.Name) bool { return n.Text != "" && 'A' <= n.Text[0] && n.Text[0] <= 'Z' }

func (q *queue) qualified() (module, name api.Name) {
	name = q.name()
	if q.isNext(".") {
		q.skip()
		module, name = name, q.name()
	}
	return module, name
}

// whole reads an int, before which a sign may be.
func (q *queue) whole(sign string) int64 {
	t := q.skip()
	if t.kind == api.NdMissing {
		return 0
	}
	n, _ := new(big.Int).SetString(sign+t.token.Text, 10)
	if !n.IsInt64() {
		q.notes = append(q.notes, api.Note{Code: api.CodeNumber, Span: api.Span{From: t.from, To: t.to}})
		return 0
	}
	return n.Int64()
}

func one(is bool) int64 {
	if is {
		return 1
	}
	return 0
}

func (q *queue) expr() api.Expr {
	own := q.skip()
	made := api.Expr{Span: q.core(own)}
	in := q.open(own)
	kid := func() { made.Kids = append(made.Kids, in.expr()) }
	switch own.kind {
	case api.NdLiteral:
		in.literal(&made)
	case api.NdName:
		made.Module, made.Name = in.qualified()
		made.Kind = api.ExName
		if isGreat(made.Name) {
			made.Kind = api.ExMake
		}
	case api.NdParen:
		in.skip()
		span := made.Span
		made = in.expr()
		made.Span = span
	case api.NdUnary:
		made.Kind = api.ExUnary
		made.Name = in.name()
		kid()
	case api.NdBinary:
		made = in.binary()
	case api.NdCall:
		made = in.call()
	default:
		in.open4(own.kind, &made, kid)
	}
	return made
}

func (q *queue) literal(made *api.Expr) {
	switch q.left[0].token.Kind {
	case api.TkInt:
		made.Kind, made.Int = api.ExInt, q.whole("")
	case api.TkText:
		made.Kind = api.ExText
		made.Text, _ = token.Unquote(q.left[0].token)
	case api.TkWord:
		made.Kind, made.Int = api.ExBool, one(q.isNext("true"))
	}
}

// open4 reads the four sorts of expressions that begin with a word.
func (q *queue) open4(kind int, made *api.Expr, kid func()) {
	switch kind {
	case api.NdIf:
		made.Kind = api.ExIf
		for range 3 {
			q.skip()
			kid()
		}
	case api.NdLet:
		made.Kind = api.ExLet
		q.skip()
		made.Name = q.name()
		q.skip()
		kid()
		q.skip()
		kid()
	case api.NdFn:
		made.Kind = api.ExFn
		q.skip()
		made.Params = q.params()
		q.skip()
		kid()
	case api.NdMatch:
		made.Kind = api.ExMatch
		q.skip()
		kid()
		q.skip()
		q.commas(",", func() {
			c := q.open(q.skip())
			pattern := c.pattern()
			c.skip()
			made.Cases = append(made.Cases, api.Case{Pattern: pattern, Body: c.expr()})
		})
	}
}

func (q *queue) binary() api.Expr {
	made := q.expr()
	for len(q.left) > 0 {
		sign := q.name()
		other := q.expr()
		made = api.Expr{Kind: api.ExBinary, Name: sign, Kids: list(made, other), Span: api.Span{From: made.Span.From, To: other.Span.To}}
	}
	return made
}

func (q *queue) call() api.Expr {
	made := q.expr()
	for len(q.left) > 0 {
		args := q.open(q.skip())
		made = api.Expr{Kind: api.ExCall, Kids: list(made), Span: api.Span{From: made.Span.From, To: q.core(args.own).To}}
		args.skip()
		if !args.isNext(")") {
			args.commas(",", func() { made.Kids = append(made.Kids, args.expr()) })
		}
	}
	return made
}

func (q *queue) pattern() api.Pattern {
	own := q.skip()
	made := api.Pattern{Span: q.core(own)}
	in := q.open(own)
	switch {
	case own.kind == api.NdMissing:
	case in.isNext("-"):
		in.skip()
		made.Kind, made.Int = api.PtInt, in.whole("-")
	case in.left[0].token.Kind == api.TkInt:
		made.Kind, made.Int = api.PtInt, in.whole("")
	case in.left[0].token.Kind == api.TkText:
		made.Kind = api.PtText
		made.Text, _ = token.Unquote(in.left[0].token)
	case in.left[0].token.Kind == api.TkWord:
		made.Kind, made.Int = api.PtBool, one(in.isNext("true"))
	case in.isNext("_") && len(in.left) == 1:
		made.Kind = api.PtAny
	default:
		made.Kind = api.PtMake
		made.Module, made.Name = in.qualified()
		if made.Module == (api.Name{}) && !isGreat(made.Name) {
			made.Kind = api.PtName
		}
		if in.isNode(api.NdPatterns) {
			kids := q.open(in.skip())
			kids.skip()
			kids.commas(",", func() { made.Kids = append(made.Kids, kids.pattern()) })
		}
	}
	return made
}

// modelCounts looks for lists that are too long in any part of a module.
func modelCounts(v reflect.Value) []api.Note {
	var notes []api.Note
	note := func(count int, s api.Span) {
		if count > 12 {
			notes = append(notes, api.Note{Code: api.CodeCount, Span: s, Args: list("", "12", strconv.Itoa(count))})
		}
	}
	eachPart(v, func(part any) {
		switch x := part.(type) {
		case api.TypeDef:
			note(len(x.Params), x.Span)
		case api.Variant:
			note(len(x.Fields), x.Name.Span)
		case api.Def:
			note(len(x.Params), x.Span)
		case api.Written:
			note(len(x.Args)-int(one(x.Kind == api.WtFn)), x.Span)
		case api.Expr:
			note(len(x.Params), x.Span)
			if x.Kind == api.ExCall {
				note(len(x.Kids)-1, x.Span)
			}
		case api.Pattern:
			note(len(x.Kids), x.Span)
		}
	})
	return notes
}

// eachPart calls visit with all structs in a value, each before what is in it.
func eachPart(v reflect.Value, visit func(part any)) {
	switch v.Kind() {
	case reflect.Struct:
		visit(v.Interface())
		for i := range v.NumField() {
			eachPart(v.Field(i), visit)
		}
	case reflect.Slice:
		for i := range v.Len() {
			eachPart(v.Index(i), visit)
		}
	}
}

// list writes a list of anything.
func list[T any](all ...T) []T { return all }

func node(kind int, kids ...api.Node) api.Node { return api.Node{Kind: kind, Kids: kids} }

func leaf(kind int, text string) api.Node {
	return api.Node{Kind: api.NdToken, Token: api.Token{Kind: kind, Text: text}}
}

// short writes a string that may be long.
func short(s string) string {
	if len(s) > 300 {
		return fmt.Sprintf("%q and %d bytes more", s[:300], len(s)-300)
	}
	return strconv.Quote(s)
}

// parsed returns the tree of a string that is not too long.
func parsed(t *testing.T, text string) api.Node {
	t.Helper()
	n, _, e := parse.Parse(text)
	if e != api.OK {
		t.Fatalf("Parse(%s): %d", short(text), e)
	}
	return n
}

// said returns what a string says, when it is to be without an error.
func said(t *testing.T, text string) api.Module {
	t.Helper()
	m, e := view.Text(text)
	if e != api.OK {
		t.Fatalf("Text(%s): %d", short(text), e)
	}
	return m
}

// isSame reports whether two modules are the same.
func isSame(a, b api.Module) bool { return reflect.DeepEqual(copyOf(a), copyOf(b)) }

// copyOf returns a module in new memory, in which empty lists are nil.
func copyOf(m api.Module) api.Module {
	return modelCopy(reflect.ValueOf(m)).Interface().(api.Module)
}

func modelCopy(v reflect.Value) reflect.Value {
	made := reflect.New(v.Type()).Elem()
	switch v.Kind() {
	case reflect.Struct:
		for i := range v.NumField() {
			made.Field(i).Set(modelCopy(v.Field(i)))
		}
	case reflect.Slice:
		for i := range v.Len() {
			made = reflect.Append(made, modelCopy(v.Index(i)))
		}
	default:
		made.Set(v)
	}
	return made
}

// showNotes writes notes.
func showNotes(notes []api.Note) string {
	var all []string
	for _, n := range notes {
		all = append(all, strings.Join(append(list(fmt.Sprintf("%d@%d-%d", n.Code, n.Span.From, n.Span.To)), n.Args...), ","))
	}
	return strings.Join(all, "; ")
}

// agrees holds all that the package says of a string against the model.
func agrees(t *testing.T, text string) {
	t.Helper()
	n := parsed(t, text)
	want, wantNotes := modelOf(n)
	if m, e := view.Of(n); !isSame(m, want) || e != api.OK {
		t.Errorf("Of %s is %d and\n%s, not\n%s", short(text), e, show(m), show(want))
	}
	if m, e := view.Text(text); !isSame(m, want) || e != api.OK {
		t.Errorf("Text of %s is %d and\n%s, not\n%s", short(text), e, show(m), show(want))
	}
	if notes, e := view.Numbers(n); showNotes(notes) != showNotes(wantNotes) || e != api.OK {
		t.Errorf("Numbers of %s: %s, %d, not %s", short(text), showNotes(notes), e, showNotes(wantNotes))
	}
}
