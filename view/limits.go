package view

import (
	"strconv"

	"marginalia/api"
)

// tooLarge returns a note for each number in a part that is too large.
func (p part) tooLarge() []api.Note {
	if p.Kind == api.NdError {
		return nil
	}
	var notes []api.Note
	for _, kid := range p.kids {
		if kid.Token.Kind == api.TkInt {
			if _, fits := p.number(); !fits {
				notes = append(notes, api.Note{Code: api.CodeNumber, Span: kid.core})
			}
		}
		notes = append(notes, kid.tooLarge()...)
	}
	return notes
}

// tooLong returns a note for each list in a module that is too long.
func tooLong(m api.Module) []api.Note {
	var notes []api.Note
	count := func(length int, s api.Span) {
		if length > api.MaxArgs {
			args := []string{"", strconv.Itoa(api.MaxArgs), strconv.Itoa(length)}
			notes = append(notes, api.Note{Code: api.CodeCount, Span: s, Args: args})
		}
	}
	w := walker{
		typeDef: func(t *api.TypeDef) { count(len(t.Params), t.Span) },
		variant: func(v *api.Variant) { count(len(v.Fields), v.Name.Span) },
		def:     func(d *api.Def) { count(len(d.Params), d.Span) },
		written: func(t *api.Written) { count(argsOf(*t), t.Span) },
		expr:    func(e *api.Expr) { count(max(len(e.Params), argumentsOf(*e)), e.Span) },
		pattern: func(p *api.Pattern) { count(len(p.Kids), p.Span) },
	}
	w.through(m)
	return notes
}

// argsOf counts the Args of a written type, but not the result of a function's.
func argsOf(t api.Written) int {
	if t.Kind == api.WtFn {
		return len(t.Args) - 1
	}
	return len(t.Args)
}

// argumentsOf counts the arguments of a call.
func argumentsOf(e api.Expr) int {
	if e.Kind == api.ExCall {
		return len(e.Kids) - 1
	}
	return 0
}
