package view

import (
	"slices"

	"marginalia/api"
)

// walker goes through all that is in a module: at each thing it calls the function for such things, if there is one, and then goes on to what is in the thing.
type walker struct {
	typeDef func(t *api.TypeDef)
	variant func(v *api.Variant)
	def     func(d *api.Def)
	written func(t *api.Written)
	expr    func(e *api.Expr)
	pattern func(p *api.Pattern)
	name    func(n *api.Name)
	sign    func(n *api.Name)
}

// through goes through a copy of a module, which the functions may change, and returns it.
func (w walker) through(m api.Module) api.Module {
	m.Imports = inCopy(m.Imports, w.toName)
	m.Types = inCopy(m.Types, w.toTypeDef)
	m.Defs = inCopy(m.Defs, w.toDef)
	return m
}

// inCopy returns a copy of a list, with each of whose elements something was done.
func inCopy[T any](list []T, do func(*T)) []T {
	list = slices.Clone(list)
	for i := range list {
		do(&list[i])
	}
	return list
}

// call calls a function, if there is one.
func call[T any](do func(*T), thing *T) {
	if do != nil {
		do(thing)
	}
}

func (w walker) toName(n *api.Name) { call(w.name, n) }

func (w walker) toTypeDef(t *api.TypeDef) {
	call(w.typeDef, t)
	w.toName(&t.Name)
	t.Params = inCopy(t.Params, w.toName)
	t.Variants = inCopy(t.Variants, w.toVariant)
}

func (w walker) toVariant(v *api.Variant) {
	call(w.variant, v)
	w.toName(&v.Name)
	v.Fields = inCopy(v.Fields, w.toWritten)
}

func (w walker) toDef(d *api.Def) {
	call(w.def, d)
	w.toName(&d.Name)
	d.Params = inCopy(d.Params, w.toParam)
	w.toWritten(&d.Result)
	w.toExpr(&d.Body)
}

func (w walker) toParam(p *api.Param) {
	w.toName(&p.Name)
	w.toWritten(&p.Type)
}

func (w walker) toWritten(t *api.Written) {
	call(w.written, t)
	w.toName(&t.Module)
	w.toName(&t.Name)
	t.Args = inCopy(t.Args, w.toWritten)
}

func (w walker) toExpr(e *api.Expr) {
	call(w.expr, e)
	w.toName(&e.Module)
	if e.Kind == api.ExBinary || e.Kind == api.ExUnary {
		call(w.sign, &e.Name)
	} else {
		w.toName(&e.Name)
	}
	e.Params = inCopy(e.Params, w.toParam)
	e.Kids = inCopy(e.Kids, w.toExpr)
	e.Cases = inCopy(e.Cases, w.toCase)
}

func (w walker) toCase(c *api.Case) {
	w.toPattern(&c.Pattern)
	w.toExpr(&c.Body)
}

func (w walker) toPattern(p *api.Pattern) {
	call(w.pattern, p)
	w.toName(&p.Module)
	w.toName(&p.Name)
	p.Kids = inCopy(p.Kids, w.toPattern)
}
