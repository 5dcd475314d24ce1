package view

import (
	"slices"

	"marginalia/api"
)

// Same reports whether two modules are the same, with all places.
func Same(a, b api.Module) bool {
	return slices.Equal(a.Imports, b.Imports) &&
		slices.EqualFunc(a.Types, b.Types, sameTypeDef) &&
		slices.EqualFunc(a.Defs, b.Defs, sameDef)
}

func sameTypeDef(a, b api.TypeDef) bool {
	return a.Name == b.Name && a.Span == b.Span &&
		slices.Equal(a.Params, b.Params) &&
		slices.EqualFunc(a.Variants, b.Variants, sameVariant)
}

func sameVariant(a, b api.Variant) bool {
	return a.Name == b.Name && slices.EqualFunc(a.Fields, b.Fields, sameWritten)
}

func sameDef(a, b api.Def) bool {
	return a.Name == b.Name && a.Span == b.Span &&
		slices.EqualFunc(a.Params, b.Params, sameParam) &&
		sameWritten(a.Result, b.Result) &&
		sameExpr(a.Body, b.Body)
}

func sameParam(a, b api.Param) bool {
	return a.Name == b.Name && sameWritten(a.Type, b.Type)
}

func sameWritten(a, b api.Written) bool {
	return a.Kind == b.Kind && a.Module == b.Module && a.Name == b.Name && a.Span == b.Span &&
		slices.EqualFunc(a.Args, b.Args, sameWritten)
}

func sameExpr(a, b api.Expr) bool {
	return a.Kind == b.Kind && a.Module == b.Module && a.Name == b.Name && a.Span == b.Span &&
		a.Int == b.Int && a.Text == b.Text &&
		slices.EqualFunc(a.Params, b.Params, sameParam) &&
		slices.EqualFunc(a.Kids, b.Kids, sameExpr) &&
		slices.EqualFunc(a.Cases, b.Cases, sameCase)
}

func sameCase(a, b api.Case) bool {
	return samePattern(a.Pattern, b.Pattern) && sameExpr(a.Body, b.Body)
}

func samePattern(a, b api.Pattern) bool {
	return a.Kind == b.Kind && a.Module == b.Module && a.Name == b.Name && a.Span == b.Span &&
		a.Int == b.Int && a.Text == b.Text &&
		slices.EqualFunc(a.Kids, b.Kids, samePattern)
}
