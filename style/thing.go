package style

import (
	"strings"

	"marginalia/api"
)

// thing is a solid token or a remark of a string, and what its place in the tree says of it.
type thing struct {
	token api.Token
	from  int // where it begins in the string
	in    int // the kind of the node whose leaf it is
	part  int // the kind of the root's part that begins with it, or 0
	deep  int // how many matches have it in their braces
}

func (t thing) to() int { return t.from + len(t.token.Text) }

// text returns what stays of a thing: all but the blanks at a remark's end.
func (t thing) text() string {
	if t.isRemark() {
		return strings.TrimRight(t.token.Text, " \t\r")
	}
	return t.token.Text
}

func (t thing) isRemark() bool { return t.token.Kind == api.TkRemark }

// isOpen reports whether a thing is a string without an end: all up to the end of its line would belong to it.
func (t thing) isOpen() bool {
	return t.token.Kind == api.TkBad && t.token.Text[0] == '"'
}

// isOneOf reports whether a thing is one of some signs: tokens of other kinds never have their strings.
func (t thing) isOneOf(signs ...string) bool {
	for _, sign := range signs {
		if t.token.Text == sign {
			return true
		}
	}
	return false
}

func (t thing) indentation() string { return strings.Repeat("  ", t.deep) }

// walker goes through a tree, and reports its things one by one.
type walker struct {
	at     int // where the next leaf begins
	part   int // the kind of the part that begins with the next thing, or 0
	report func(t thing)
}

func (w *walker) node(n api.Node, deep int) {
	inner := deep
	for _, kid := range n.Kids {
		if kid.Kind != api.NdToken {
			if n.Kind == api.NdFile {
				w.part = kid.Kind
			}
			w.node(kid, inner)
			continue
		}
		t := thing{token: kid.Token, from: w.at, in: n.Kind, part: w.part}
		isBrace := func(sign string) bool { return t.in == api.NdMatch && t.isOneOf(sign) }
		if isBrace("}") {
			inner = deep
		}
		t.deep = inner
		w.leaf(t)
		if isBrace("{") {
			inner = deep + 1
		}
	}
}

func (w *walker) leaf(t thing) {
	w.at = t.to()
	if t.token.Kind != api.TkBlank {
		w.part = 0
		w.report(t)
	}
}
