package view_test

import (
	"fmt"
	"strconv"
	"strings"

	"marginalia/api"
)

// A module is written by its items, one a line. A name is `x@4` (at 4, as long as its string is), `?@3` if it is missing, and nothing if it is zero; other things are what they are, what is in them in brackets, and their spans.

func show(m api.Module) string {
	var lines []string
	for _, n := range m.Imports {
		lines = append(lines, "import "+showName(n))
	}
	for _, t := range m.Types {
		line := "type " + showName(t.Name) + "[" + join(t.Params, showName) + "]"
		for _, v := range t.Variants {
			line += " | " + showName(v.Name) + "(" + join(v.Fields, showWritten) + ")"
		}
		lines = append(lines, line+showSpan(t.Span))
	}
	for _, d := range m.Defs {
		lines = append(lines, "def "+showName(d.Name)+"("+join(d.Params, showParam)+")"+showType(d.Result)+" = "+showExpr(d.Body)+showSpan(d.Span))
	}
	return strings.Join(lines, "\n")
}

func join[T any](all []T, write func(T) string) string {
	var parts []string
	for _, one := range all {
		parts = append(parts, write(one))
	}
	return strings.Join(parts, " ")
}

func showSpan(s api.Span) string {
	return "@" + strconv.Itoa(s.From) + "-" + strconv.Itoa(s.To)
}

func showName(n api.Name) string {
	switch {
	case n == api.Name{}:
		return ""
	case n.Text == "" && n.Span.From == n.Span.To:
		return "?@" + strconv.Itoa(n.Span.From)
	case n.Text != "" && n.Span.To == n.Span.From+len(n.Text):
		return n.Text + "@" + strconv.Itoa(n.Span.From)
	}
	return fmt.Sprintf("%#v", n)
}

// inBrackets writes what is in a thing, and where it is.
func inBrackets(what string, s api.Span, parts ...string) string {
	var some []string
	for _, p := range parts {
		if p != "" {
			some = append(some, p)
		}
	}
	if len(some) == 0 {
		return what + showSpan(s)
	}
	return what + "(" + strings.Join(some, " ") + ")" + showSpan(s)
}

func kindName(kind int, names string) string {
	all := strings.Fields(names)
	if kind < 0 || kind >= len(all) {
		return "kind" + strconv.Itoa(kind)
	}
	return all[kind]
}

func showWritten(w api.Written) string {
	return inBrackets(kindName(w.Kind, "missing var name fn"), w.Span, showName(w.Module), showName(w.Name), join(w.Args, showWritten))
}

// showType writes a type that stands after a colon, if there is one.
func showType(w api.Written) string {
	if w.Kind == api.WtMissing && w.Span == (api.Span{}) {
		return ""
	}
	return ":" + showWritten(w)
}

func showParam(p api.Param) string { return showName(p.Name) + showType(p.Type) }

func showValue(number int64, text string) string {
	if text != "" {
		return strconv.Quote(text)
	}
	if number != 0 {
		return strconv.FormatInt(number, 10)
	}
	return ""
}

func showExpr(e api.Expr) string {
	what := kindName(e.Kind, "missing int text bool name make if let fn match call binary unary")
	return inBrackets(what, e.Span, showName(e.Module), showName(e.Name), showValue(e.Int, e.Text), join(e.Params, showParam), join(e.Kids, showExpr), join(e.Cases, showCase))
}

func showCase(c api.Case) string { return showPattern(c.Pattern) + "=>" + showExpr(c.Body) }

func showPattern(p api.Pattern) string {
	what := kindName(p.Kind, "missing any name int text bool make")
	return inBrackets(what, p.Span, showName(p.Module), showName(p.Name), showValue(p.Int, p.Text), join(p.Kids, showPattern))
}
