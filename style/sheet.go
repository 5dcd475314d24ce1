package style

import (
	"strings"

	"marginalia/api"
	"marginalia/parse"
	"marginalia/rope"
	"marginalia/token"
)

// sheet is a string as its things, between which are gaps: gap i is before thing i, and one more is at the end.
type sheet struct {
	raw    string
	things []thing
	leads  []int // of each thing the kind of the part that it begins, or that it belongs to as a remark; or 0
}

func newSheet(text string) (sheet, api.Errno) {
	root, _, e := parse.Parse(text)
	if e != api.OK {
		return sheet{}, e
	}
	s := sheet{raw: text}
	w := walker{report: func(t thing) { s.things = append(s.things, t) }}
	w.node(root, 0)
	s.leads = make([]int, len(s.things))
	for i := len(s.things) - 1; i >= 0; i-- {
		s.leads[i] = s.lead(i)
	}
	return s, api.OK
}

// lead asks what was found of the next thing: a remark belongs to what the next one belongs to.
func (s sheet) lead(i int) int {
	isLast := i == len(s.things)-1
	if isLast || !s.isOwnLine(i) || s.hasEmptyLine(i+1) {
		return s.things[i].part
	}
	return s.leads[i+1]
}

// styled returns the styled string, however long it is.
func (s sheet) styled() string {
	var styled strings.Builder
	at := 0
	s.stretches(func(stretch api.Span, wanted string) {
		styled.WriteString(s.raw[at:stretch.From])
		styled.WriteString(wanted)
		at = stretch.To
	})
	return styled.String()
}

// edits returns the edits that make the styled string.
func (s sheet) edits() ([]api.Edit, api.Errno) {
	var edits []api.Edit
	size := len(s.raw)
	s.stretches(func(stretch api.Span, wanted string) {
		old := s.raw[stretch.From:stretch.To]
		size += len(wanted) - len(old)
		// Neither string is too long to be compared.
		diff, _ := rope.Diff(old, wanted)
		for _, d := range diff {
			edits = append(edits, api.Edit{From: stretch.From + d.From, To: stretch.From + d.To, New: d.New})
		}
	})
	if size > api.MaxText || len(edits) > api.MaxEdits {
		return nil, api.ErrFull
	}
	return edits, api.OK
}

// stretches reports, from the beginning of the string to its end, all stretches that style has a say in, gaps and ends of remarks, with what must be there.
func (s sheet) stretches(report func(stretch api.Span, wanted string)) {
	for i := range len(s.things) + 1 {
		report(s.gap(i), s.wanted(i))
		if i < len(s.things) {
			t := s.things[i]
			report(api.Span{From: t.from + len(t.text()), To: t.to()}, "")
		}
	}
}

func (s sheet) gap(i int) api.Span {
	gap := api.Span{To: len(s.raw)}
	if i > 0 {
		gap.From = s.things[i-1].to()
	}
	if i < len(s.things) {
		gap.To = s.things[i].from
	}
	return gap
}

// lineFeeds counts those of a gap, in which there is nothing else but blanks.
func (s sheet) lineFeeds(i int) int {
	gap := s.gap(i)
	return strings.Count(s.raw[gap.From:gap.To], "\n")
}

func (s sheet) hasEmptyLine(i int) bool { return s.lineFeeds(i) > 1 }

// isOwnLine reports whether a thing is a remark with nothing before it on its line.
func (s sheet) isOwnLine(i int) bool {
	return s.things[i].isRemark() && (i == 0 || s.lineFeeds(i) > 0)
}

// wanted returns what must be in a gap.
func (s sheet) wanted(i int) string {
	switch {
	case i == 0:
		return ""
	case i == len(s.things):
		return "\n"
	case s.needsEmptyLine(i):
		return "\n\n" + s.things[i].indentation()
	case s.needsLine(i):
		return "\n" + s.things[i].indentation()
	}
	return besides(s.things[i-1], s.things[i])
}

// needsEmptyLine reports whether an empty line is before a thing that is not the first one.
func (s sheet) needsEmptyLine(i int) bool {
	if s.things[i-1].isRemark() && s.leads[i-1] != 0 {
		return false
	}
	switch s.leads[i] {
	case 0:
		return false
	case api.NdTypeDef, api.NdDef:
		return true
	}
	return s.hasEmptyLine(i)
}

// needsLine reports whether a thing that is not the first one begins a new line.
func (s sheet) needsLine(i int) bool {
	before, t := s.things[i-1], s.things[i]
	switch {
	case before.isRemark(), before.isOpen(), s.isOwnLine(i), t.part != 0:
		return true
	case before.in == api.NdMatch && before.isOneOf("{", ","):
		return true
	}
	return t.in == api.NdMatch && t.isOneOf("}")
}

// besides returns what is between two neighbours on one line.
func besides(a, b thing) string {
	switch {
	case b.isRemark():
		return "  "
	case isTight(a, b) && token.Apart(a.token, b.token):
		return ""
	}
	return " "
}

// isTight reports whether two neighbours on one line have nothing between them, unless they need it to stay apart.
func isTight(a, b thing) bool {
	return isTightAfter(a) || isTightBefore(b)
}

func isTightAfter(t thing) bool {
	if t.isOneOf("-", "!") {
		return t.in == api.NdUnary || t.in == api.NdPattern
	}
	return t.isOneOf("(", "[", ".")
}

func isTightBefore(t thing) bool {
	if t.isOneOf("(") {
		return t.in == api.NdParams || t.in == api.NdArgs || t.in == api.NdPatterns
	}
	return t.isOneOf(")", "]", ",", ";", ".", ":", "[")
}
