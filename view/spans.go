package view

import "marginalia/api"

// replaced returns a module with other spans; what is not there at all has none.
func replaced(m api.Module, by func(api.Span) api.Span) api.Module {
	name := func(n *api.Name) {
		if *n != (api.Name{}) {
			n.Span = by(n.Span)
		}
	}
	w := walker{
		name:    name,
		sign:    name,
		typeDef: func(t *api.TypeDef) { t.Span = by(t.Span) },
		def:     func(d *api.Def) { d.Span = by(d.Span) },
		written: func(t *api.Written) {
			if !sameWritten(*t, api.Written{}) {
				t.Span = by(t.Span)
			}
		},
		expr: func(e *api.Expr) {
			if !sameExpr(*e, api.Expr{}) {
				e.Span = by(e.Span)
			}
		},
		pattern: func(p *api.Pattern) {
			if !samePattern(*p, api.Pattern{}) {
				p.Span = by(p.Span)
			}
		},
	}
	return w.through(m)
}
