package view

import (
	"marginalia/api"
	"marginalia/token"
)

// module returns what a root says.
func (p part) module() api.Module {
	return api.Module{
		Imports: each(p.kidsOf(api.NdImport), part.imported),
		Types:   each(p.kidsOf(api.NdTypeDef), part.typeDef),
		Defs:    each(p.kidsOf(api.NdDef), part.def),
	}
}

func (p part) imported() api.Name { return p.kids[1].name() }

func (p part) typeDef() api.TypeDef {
	t := api.TypeDef{Name: p.kids[1].name(), Span: p.core}
	for _, vars := range p.kidsOf(api.NdVars) {
		t.Params = each(between(vars.kids), part.name)
	}
	t.Variants = each(p.kidsOf(api.NdVariant), part.variant)
	return t
}

func (p part) variant() api.Variant {
	v := api.Variant{Name: p.kids[0].name()}
	for _, args := range p.kidsOf(api.NdArgs) {
		v.Fields = each(between(args.kids), part.written)
	}
	return v
}

func (p part) def() api.Def {
	return api.Def{
		Name:   p.kids[1].name(),
		Params: p.kids[2].params(),
		Result: typeAfterColon(p.kids[3:]),
		Body:   p.kids[len(p.kids)-2].expr(),
		Span:   p.core,
	}
}

// params returns the parameters of an NdParams.
func (p part) params() []api.Param { return each(p.kidsOf(api.NdParam), part.param) }

func (p part) param() api.Param {
	return api.Param{Name: p.kids[0].name(), Type: typeAfterColon(p.kids[1:])}
}

// typeAfterColon returns the type that some parts begin with, if they do.
func typeAfterColon(parts []part) api.Written {
	if len(parts) == 0 || !parts[0].is(":") {
		return api.Written{}
	}
	return parts[1].written()
}

// name returns the name that a leaf is, or what there is of a name that is missing.
func (p part) name() api.Name {
	if p.Kind == api.NdMissing {
		return api.Name{Span: api.Span{From: p.before, To: p.before}}
	}
	return api.Name{Text: p.Token.Text, Span: p.core}
}

// qualified returns the module's name and the name with which a part begins, and what is after them; and whether the name is a small one alone.
func (p part) qualified() (module, name api.Name, after []part, isSmallAlone bool) {
	if len(p.kids) > 1 && p.kids[1].is(".") {
		return p.kids[0].name(), p.kids[2].name(), p.kids[3:], false
	}
	return api.Name{}, p.kids[0].name(), p.kids[1:], !token.Great(p.kids[0].Token)
}

// written returns the type that a part is: of an NdMissing there is only its span.
func (p part) written() api.Written {
	w := api.Written{Span: p.core}
	switch p.Kind {
	case api.NdTypeFn:
		result := len(p.kids) - 1
		w.Kind = api.WtFn
		w.Args = append(each(between(p.kids[:result-1]), part.written), p.kids[result].written())
	case api.NdTypeName:
		module, name, after, isVar := p.qualified()
		w.Kind, w.Module, w.Name = api.WtName, module, name
		if isVar {
			w.Kind = api.WtVar
		}
		for _, args := range after {
			w.Args = each(between(args.kids), part.written)
		}
	}
	return w
}
