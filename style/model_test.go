package style_test

import (
	"fmt"
	"regexp"
	"slices"
	"strconv"
	"strings"
	"testing"

	"marginalia/api"
	"marginalia/parse"
	"marginalia/style"
	"marginalia/token"
	"marginalia/tree"
)

// The model says again, in the plainest way, what the chapter says: the tests hold the package against it.

// modelThing is a solid token or a remark: its string, its span, and the kinds and the kids before it of all nodes around it.
type modelThing struct {
	token  api.Token
	span   api.Span
	within []api.Node
	path   []int
}

func (m modelThing) remark() bool { return m.token.Kind == api.TkRemark }

// inside returns the kind of the node whose leaf a thing is.
func (m modelThing) inside() int { return m.within[len(m.within)-1].Kind }

// is reports whether a thing is a sign that is a kid of a node of one of some kinds.
func (m modelThing) is(sign string, kinds ...int) bool {
	return m.token == api.Token{Kind: api.TkSign, Text: sign} && (len(kinds) == 0 || slices.Contains(kinds, m.inside()))
}

func modelThings(t *testing.T, text string) []modelThing {
	t.Helper()
	root := parsed(t, text)
	tokens, _ := token.Lex(text)
	positions, _ := tree.All(root, api.NdToken)
	var things []modelThing
	end := 0
	for i, path := range positions {
		begin := end
		end += len(tokens[i].Text)
		if tokens[i].Kind == api.TkBlank {
			continue
		}
		m := modelThing{token: tokens[i], span: api.Span{From: begin, To: end}, path: path}
		n := root
		for _, k := range path {
			m.within = append(m.within, n)
			n = n.Kids[k]
		}
		things = append(things, m)
	}
	return things
}

// model is a string, its things, and which of them have a line feed and an empty line before them.
type model struct {
	text   string
	things []modelThing
	lines  map[int]bool
	empty  map[int]bool
}

func newModel(t *testing.T, text string) model {
	m := model{text: text, things: modelThings(t, text), lines: map[int]bool{}, empty: map[int]bool{}}
	for i, thing := range m.things {
		if m.alone(i) || m.part(i) != 0 || thing.is("}", api.NdMatch) {
			m.lines[i] = true
		}
		if thing.remark() || thing.is("{", api.NdMatch) || thing.is(",", api.NdMatch) || thing.token.Kind == api.TkBad && strings.HasPrefix(thing.token.Text, `"`) {
			m.lines[i+1] = true
		}
		if m.part(i) == 0 {
			continue
		}
		k := i
		for k > 0 && m.alone(k-1) && !emptyLine.MatchString(m.gap(k)) {
			k--
		}
		m.empty[k] = m.part(i) == api.NdTypeDef || m.part(i) == api.NdDef || emptyLine.MatchString(m.gap(k))
	}
	return m
}

var emptyLine = regexp.MustCompile("\n[ \t\r]*\n")

// gap returns what is in the string before a thing, or at its end.
func (m model) gap(i int) string {
	s := m.place(i)
	return m.text[s.From:s.To]
}

func (m model) place(i int) api.Span {
	s := api.Span{To: len(m.text)}
	if i > 0 {
		s.From = m.things[i-1].span.To
	}
	if i < len(m.things) {
		s.To = m.things[i].span.From
	}
	return s
}

// alone reports whether a thing is a remark on a line of its own.
func (m model) alone(i int) bool {
	line := m.text[:m.things[i].span.From]
	line = line[strings.LastIndex(line, "\n")+1:]
	return m.things[i].remark() && strings.Trim(line, " \t\r") == ""
}

// part returns the kind of the part that begins with a thing, or 0.
func (m model) part(i int) int {
	path := m.things[i].path
	if len(path) == 2 && path[1] == 0 {
		return m.things[i].within[1].Kind
	}
	return 0
}

// deep counts the matches in whose braces a thing is.
func (m model) deep(i int) int {
	count := 0
	for level, n := range m.things[i].within {
		if n.Kind != api.NdMatch {
			continue
		}
		in := false
		for k, kid := range n.Kids {
			in = in && kid.Token.Text != "}"
			if k == m.things[i].path[level] && in {
				count++
			}
			in = in || kid.Token.Text == "{"
		}
	}
	return count
}

// wanted returns what is to be before a thing, or at the end.
func (m model) wanted(i int) string {
	switch {
	case i == 0:
		return ""
	case i == len(m.things):
		return "\n"
	case m.empty[i]:
		return "\n\n" + strings.Repeat(" ", 2*m.deep(i))
	case m.lines[i]:
		return "\n" + strings.Repeat(" ", 2*m.deep(i))
	case m.things[i].remark():
		return "  "
	}
	a, b := m.things[i-1], m.things[i]
	together, _ := token.Lex(a.token.Text + b.token.Text)
	if !slices.Equal(together, list(a.token, b.token)) {
		return " "
	}
	switch {
	case a.is("("), a.is("["), a.is("."), b.is(")"), b.is("]"), b.is(","), b.is(";"), b.is("."), b.is(":"), b.is("["):
		return ""
	case b.is("(", api.NdParams, api.NdArgs, api.NdPatterns), a.is("-", api.NdUnary, api.NdPattern), a.is("!", api.NdUnary):
		return ""
	}
	return " "
}

// stretches returns all that may be changed, in order, and what is to be there.
func (m model) stretches() ([]api.Span, []string) {
	spans, wanted := list(m.place(0)), list(m.wanted(0))
	for i, thing := range m.things {
		if thing.remark() {
			trimmed := strings.TrimRight(m.text[:thing.span.To], " \t\r")
			spans, wanted = append(spans, api.Span{From: len(trimmed), To: thing.span.To}), append(wanted, "")
		}
		spans, wanted = append(spans, m.place(i+1)), append(wanted, m.wanted(i+1))
	}
	return spans, wanted
}

func (m model) styled() string {
	spans, wanted := m.stretches()
	styled := m.text
	for i := len(spans) - 1; i >= 0; i-- {
		styled = styled[:spans[i].From] + wanted[i] + styled[spans[i].To:]
	}
	return styled
}

func (m model) edits() []api.Edit {
	var edits []api.Edit
	spans, wanted := m.stretches()
	for i, s := range spans {
		old := m.text[s.From:s.To]
		if old == wanted[i] {
			continue
		}
		begin, end := 0, 0
		for least := min(len(old), len(wanted[i])); begin < least && old[begin] == wanted[i][begin]; begin++ {
		}
		for least := min(len(old), len(wanted[i])) - begin; end < least && old[len(old)-1-end] == wanted[i][len(wanted[i])-1-end]; end++ {
		}
		edits = append(edits, api.Edit{From: s.From + begin, To: s.To - end, New: wanted[i][begin : len(wanted[i])-end]})
	}
	return edits
}

func (m model) indent(offset int) int {
	for i, thing := range m.things {
		if thing.span.From >= offset {
			return 2 * m.deep(i)
		}
	}
	return 0
}

// agrees holds all that the package says of a string that is not long against the model.
func agrees(t *testing.T, text string) {
	t.Helper()
	m := newModel(t, text)
	want := m.styled()
	if got, e := style.Style(text); got != want || e != api.OK {
		t.Errorf("Style of %s: %s, %d, not %s", short(text), short(got), e, short(want))
	}
	if is, e := style.IsStyled(text); is != (want == text) || e != api.OK {
		t.Errorf("IsStyled of %s: %t, %d", short(text), is, e)
	}
	edits := m.edits()
	got, e := style.Edits(text)
	if len(edits) > api.MaxEdits {
		if len(got) > 0 || e != api.ErrFull {
			t.Errorf("Edits of %s: %v, %d, not ErrFull", short(text), got, e)
		}
	} else if !slices.Equal(got, edits) || e != api.OK {
		t.Errorf("Edits of %s: %v, %d, not %v", short(text), got, e, edits)
	}
}

// agreesAll holds what the package says of all offsets and spans of a short string, too, against the model.
func agreesAll(t *testing.T, text string) {
	t.Helper()
	agrees(t, text)
	m := newModel(t, text)
	for from := range len(text) + 1 {
		m.agreesAt(t, from)
		for to := from; to <= len(text); to++ {
			m.agreesIn(t, api.Span{From: from, To: to})
		}
	}
}

func (m model) agreesAt(t *testing.T, offset int) {
	t.Helper()
	if got, e := style.Indent(m.text, offset); got != m.indent(offset) || e != api.OK {
		t.Errorf("Indent of %s at %d: %d, %d, not %d", short(m.text), offset, got, e, m.indent(offset))
	}
}

func (m model) agreesIn(t *testing.T, s api.Span) {
	t.Helper()
	var touching []api.Edit
	for _, x := range m.edits() {
		if max(x.From, s.From) <= min(x.To, s.To) {
			touching = append(touching, x)
		}
	}
	if got, e := style.Range(m.text, s); !slices.Equal(got, touching) || e != api.OK {
		t.Errorf("Range of %s and %d, %d: %v, %d, not %v", short(m.text), s.From, s.To, got, e, touching)
	}
}

// list writes a list of anything.
func list[T any](all ...T) []T { return all }

// edit writes an edit.
func edit(from, to int, s string) api.Edit { return api.Edit{From: from, To: to, New: s} }

// short writes a string that may be long.
func short(s string) string {
	if len(s) > 300 {
		return fmt.Sprintf("%q and %d bytes more", s[:300], len(s)-300)
	}
	return strconv.Quote(s)
}

// parsed returns the tree of a string that is not too long.
func parsed(t *testing.T, text string) api.Node {
	t.Helper()
	n, _, e := parse.Parse(text)
	if e != api.OK {
		t.Fatalf("Parse(%s): %d", short(text), e)
	}
	return n
}

// styled returns the styled string of a string for which there is one.
func styled(t *testing.T, text string) string {
	t.Helper()
	s, e := style.Style(text)
	if e != api.OK {
		t.Fatalf("Style(%s): %d", short(text), e)
	}
	return s
}
