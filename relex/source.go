package relex

import (
	"slices"
	"strings"

	"marginalia/api"
)

// linesOf returns the span of the lines in which a span of a string lies, with the line feed of the last one, if it has one.
func linesOf(text string, s api.Span) api.Span {
	from := strings.LastIndexByte(text[:s.From], '\n') + 1
	if feed := strings.IndexByte(text[s.To:], '\n'); feed >= 0 {
		return api.Span{From: from, To: s.To + feed + 1}
	}
	return api.Span{From: from, To: len(text)}
}

// source is a string that is edited, and where its tokens are.
type source struct {
	text   string
	begins []int // where each token begins, and at last where the string ends
}

func newSource(text string, tokens []api.Token) source {
	begins := []int{0}
	end := 0
	for _, t := range tokens {
		end += len(t.Text)
		begins = append(begins, end)
	}
	return source{text: text, begins: begins}
}

// part is tokens, from the one with the number from to before the one with the number to.
type part struct{ from, to int }

// bytes returns the span of a part's tokens.
func (s source) bytes(p part) api.Span {
	return api.Span{From: s.begins[p.from], To: s.begins[p.to]}
}

// at returns the number of the token in which the byte at an offset is: -1 of the offset -1.
func (s source) at(offset int) int {
	after, _ := slices.BinarySearch(s.begins, offset+1)
	return after - 1
}

// met returns the tokens of the lines that an edit meets. A line feed is in a blank whatever is before it, so the tokens before that blank hang on nothing after the line feed, and those after it on nothing before: only the blanks with the line feed before the lines and with their last one may change with the lines.
func (s source) met(e api.Edit) part {
	lines := linesOf(s.text, api.Span{From: e.From, To: e.To})
	return part{from: max(s.at(lines.From-1), 0), to: s.at(lines.To-1) + 1}
}

// parts returns the tokens that are to be scanned again, in rising order. Edits that meet the same token have one part; so have those of the empty string, which have no token.
func (s source) parts(edits []api.Edit) []part {
	var parts []part
	for _, e := range edits {
		p := s.met(e)
		if last := len(parts) - 1; last >= 0 && p.from <= parts[last].to {
			parts[last].to = p.to
		} else {
			parts = append(parts, p)
		}
	}
	return parts
}
