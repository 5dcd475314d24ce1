package place_test

import (
	"slices"
	"testing"

	"marginalia/api"
	"marginalia/place"
)

func sp(from, to int) api.Span { return api.Span{From: from, To: to} }

// P2.3: Lines.
func TestLines(t *testing.T) {
	for _, c := range []struct {
		text string
		want []api.Span
	}{
		{"", []api.Span{sp(0, 0)}},
		{"ab", []api.Span{sp(0, 2)}},
		{"\n", []api.Span{sp(0, 0), sp(1, 1)}},
		{"\n\n", []api.Span{sp(0, 0), sp(1, 1), sp(2, 2)}},
		{"ab\ncd", []api.Span{sp(0, 2), sp(3, 5)}},
		{"ab\ncd\n", []api.Span{sp(0, 2), sp(3, 5), sp(6, 6)}},
		{"\na\n\n\nb", []api.Span{sp(0, 0), sp(1, 2), sp(3, 3), sp(4, 4), sp(5, 6)}},
		{"a\r\nb\r", []api.Span{sp(0, 2), sp(3, 5)}},
		{"\u00e9\n\U0001f600\n\xf0\x9f", []api.Span{sp(0, 2), sp(3, 7), sp(8, 10)}},
		{"a\u2028b\u0085c\v\f", []api.Span{sp(0, 10)}},
		{full, []api.Span{sp(0, api.MaxText)}},
	} {
		if l, e := place.Lines(c.text); !slices.Equal(l, c.want) || e != api.OK {
			t.Errorf("Lines(%.20q) = %v, %d, not %v", c.text, l, e, c.want)
		}
	}
	if l, e := place.Lines(feeds); len(l) != api.MaxText+1 || e != api.OK || l[0] != sp(0, 0) || l[api.MaxText] != sp(api.MaxText, api.MaxText) {
		t.Errorf("Lines of line feeds alone: %d, %d", len(l), e)
	}
	if l, e := place.Lines(tooLong); len(l) > 0 || e != api.ErrLimit {
		t.Errorf("Lines of too long a string: %d, %d", len(l), e)
	}
}

// P2.3: the spans are new memory.
func TestLinesAreNew(t *testing.T) {
	first, _ := place.Lines("a\nb")
	first[0] = sp(7, 7)
	if second, _ := place.Lines("a\nb"); !slices.Equal(second, []api.Span{sp(0, 1), sp(2, 3)}) {
		t.Errorf("Lines again: %v", second)
	}
}
