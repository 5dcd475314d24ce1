package place_test

import (
	"math"
	"strings"
	"testing"

	"marginalia/api"
	"marginalia/place"
)

func at(line, column int) api.Place { return api.Place{Line: line, Column: column} }

var (
	full    = strings.Repeat("a", api.MaxText)
	tooLong = full + "a"
	feeds   = strings.Repeat("\n", api.MaxText)
	wide    = strings.Repeat("\U0001f600", api.MaxText/4)
	broken  = strings.Repeat("\xf0", api.MaxText)
)

// places are offsets that have a place.
var places = []struct {
	text   string
	offset int
	want   api.Place
}{
	{"", 0, at(0, 0)},
	{"abc", 0, at(0, 0)}, {"abc", 2, at(0, 2)}, {"abc", 3, at(0, 3)},
	{"\n", 0, at(0, 0)}, {"\n", 1, at(1, 0)},
	{"\n\na", 1, at(1, 0)}, {"\n\na", 2, at(2, 0)}, {"\n\na", 3, at(2, 1)},
	{"ab\ncd\n", 2, at(0, 2)}, {"ab\ncd\n", 3, at(1, 0)}, {"ab\ncd\n", 5, at(1, 2)}, {"ab\ncd\n", 6, at(2, 0)},
	{"a\r\nb", 1, at(0, 1)}, {"a\r\nb", 2, at(0, 2)}, {"a\r\nb", 3, at(1, 0)},
	{"\tb", 1, at(0, 1)}, {"\x00\x7f", 2, at(0, 2)}, {"a\u2028b\u0085c", 7, at(0, 4)},
	{"a\u00e9b", 0, at(0, 0)}, {"a\u00e9b", 1, at(0, 1)}, {"a\u00e9b", 3, at(0, 2)}, {"a\u00e9b", 4, at(0, 3)},
	{"\u20acb", 3, at(0, 1)}, {"\ufffdb", 3, at(0, 1)}, {"\uffffb", 3, at(0, 1)}, {"e\u0301b", 3, at(0, 2)},
	{"\U00010000b", 4, at(0, 2)}, {"\U0001f600b", 4, at(0, 2)}, {"\U0001f600b", 5, at(0, 3)}, {"\U0010ffff\n\U0010ffff", 9, at(1, 2)},
	// begins none, and is cut
	{"\x80\xbf\xff", 2, at(0, 2)}, {"\xc3", 1, at(0, 1)}, {"\xe2\x82", 1, at(0, 1)}, {"\xe2\x82", 2, at(0, 2)}, {"\xf0\x9f\x98", 1, at(0, 1)}, {"\xf0\x9f\x98", 2, at(0, 2)}, {"\xf0\x9f\x98", 3, at(0, 3)},
	{"\xf0\x9f\x98\n\x80", 3, at(0, 3)}, {"\xf0\x9f\x98\n\x80", 5, at(1, 1)}, {"\xe2\u00e9", 3, at(0, 2)}, {"\u00e9\xa9", 3, at(0, 2)},
	// not the shortest way, surrogates, above 0x10FFFF
	{"\xc0\x80", 1, at(0, 1)}, {"\xc1\xbf", 2, at(0, 2)}, {"\xe0\x9f\xbf", 1, at(0, 1)}, {"\xe0\x9f\xbf", 2, at(0, 2)}, {"\xf0\x8f\xbf\xbf", 3, at(0, 3)}, {"\xf0\x8f\xbf\xbf", 4, at(0, 4)},
	{"\xed\xa0\x80", 1, at(0, 1)}, {"\xed\xbf\xbf", 2, at(0, 2)}, {"\xed\xa0\xbd\xed\xb8\x80", 6, at(0, 6)},
	{"\xf4\x90\x80\x80", 2, at(0, 2)}, {"\xf4\x90\x80\x80", 4, at(0, 4)}, {"\xf5\x80\x80\x80", 4, at(0, 4)}, {"\xf8\x88\x80\x80\x80", 5, at(0, 5)},
	// as long as may be
	{full, api.MaxText, at(0, api.MaxText)}, {feeds, api.MaxText, at(api.MaxText, 0)}, {feeds, 7, at(7, 0)}, {wide, api.MaxText, at(0, api.MaxText/2)}, {broken, 19999, at(0, 19999)},
}

// P2.1 and P2.2: what has a place.
func TestPlaces(t *testing.T) {
	for _, c := range places {
		if p, e := place.Of(c.text, c.offset); p != c.want || e != api.OK {
			t.Errorf("Of(%.20q, %d) = %v, %d, not %v", c.text, c.offset, p, e, c.want)
		}
		if offset, e := place.Offset(c.text, c.want); offset != c.offset || e != api.OK {
			t.Errorf("Offset(%.20q, %v) = %d, %d, not %d", c.text, c.want, offset, e, c.offset)
		}
		if offset, e := place.Near(c.text, c.want); offset != c.offset || e != api.OK {
			t.Errorf("Near(%.20q, %v) = %d, %d, not %d", c.text, c.want, offset, e, c.offset)
		}
	}
}

// P2.1: offsets without a place.
func TestOfErrors(t *testing.T) {
	for _, c := range []struct {
		text   string
		offset int
		want   api.Errno
	}{
		{"", -1, api.ErrArg}, {"", 1, api.ErrArg}, {"ab", 3, api.ErrArg}, {"ab", -1, api.ErrArg},
		{"ab", math.MaxInt, api.ErrArg}, {"ab", math.MinInt, api.ErrArg},
		{"a\u00e9b", 2, api.ErrArg}, {"\u20ac", 1, api.ErrArg}, {"\u20ac", 2, api.ErrArg}, {"\ufffd", 1, api.ErrArg},
		{"\U0001f600", 1, api.ErrArg}, {"\U0001f600", 2, api.ErrArg}, {"\U0001f600", 3, api.ErrArg}, {"\n\U0001f600\n", 4, api.ErrArg},
		{wide, api.MaxText - 1, api.ErrArg}, {full, api.MaxText + 1, api.ErrArg},
		{tooLong, 0, api.ErrLimit}, {tooLong, -1, api.ErrLimit}, {tooLong, api.MaxText + 2, api.ErrLimit}, {wide + "\u00e9", 1, api.ErrLimit},
	} {
		if p, e := place.Of(c.text, c.offset); p != (api.Place{}) || e != c.want {
			t.Errorf("Of(%.20q, %d) = %v, %d, not %d", c.text, c.offset, p, e, c.want)
		}
	}
}

// nowhere are places without an offset, with the nearest one.
var nowhere = []struct {
	text string
	p    api.Place
	near int
}{
	{"", at(0, 1), 0}, {"", at(1, 0), 0}, {"", at(-1, 0), 0}, {"", at(0, -1), 0},
	{"ab\ncd", at(-1, 0), 0}, {"ab\ncd", at(-1, 1), 0}, {"ab\ncd", at(math.MinInt, math.MaxInt), 0},
	{"ab\ncd", at(2, 0), 5}, {"ab\ncd", at(2, -1), 5}, {"ab\ncd", at(math.MaxInt, math.MinInt), 5},
	{"ab\ncd", at(0, 3), 2}, {"ab\ncd", at(0, math.MaxInt), 2}, {"ab\ncd", at(1, 3), 5}, {"ab\ncd", at(1, math.MaxInt), 5},
	{"ab\ncd", at(0, -1), 0}, {"ab\ncd", at(1, -1), 3}, {"ab\ncd", at(1, math.MinInt), 3},
	{"ab\n", at(1, 1), 3}, {"ab\n", at(2, 0), 3}, {"\n\n", at(1, 1), 1}, {"\n\n", at(0, 1), 0}, {"\n\n", at(1, -1), 1},
	{"a\u00e9b", at(0, 4), 4}, {"\u20ac", at(0, 2), 3}, {"\u20ac", at(0, 3), 3},
	{"\U0001f600", at(0, 1), 0}, {"\U0001f600", at(0, 3), 4}, {"a\U0001f600b", at(0, 2), 1}, {"a\n\U00010000\U0010ffff", at(1, 3), 6}, {"\U0001f600\n\U0001f600", at(1, 1), 5},
	{full, at(0, api.MaxText+1), api.MaxText}, {full, at(1, 0), api.MaxText}, {feeds, at(api.MaxText+1, 0), api.MaxText}, {feeds, at(5, 1), 5}, {wide, at(0, api.MaxText/2-1), api.MaxText - 4},
}

// P2.1: places without an offset.
func TestOffsetErrors(t *testing.T) {
	for _, c := range nowhere {
		if offset, e := place.Offset(c.text, c.p); offset != 0 || e != api.ErrArg {
			t.Errorf("Offset(%.20q, %v) = %d, %d", c.text, c.p, offset, e)
		}
	}
	for _, p := range []api.Place{at(0, 0), at(-1, 0), at(0, -1), at(1, 0), at(0, math.MaxInt)} {
		if offset, e := place.Offset(tooLong, p); offset != 0 || e != api.ErrLimit {
			t.Errorf("Offset of too long a string, %v: %d, %d", p, offset, e)
		}
	}
}

// P2.2: the offset nearest to a place without one.
func TestNear(t *testing.T) {
	for _, c := range nowhere {
		if offset, e := place.Near(c.text, c.p); offset != c.near || e != api.OK {
			t.Errorf("Near(%.20q, %v) = %d, %d, not %d", c.text, c.p, offset, e, c.near)
		}
	}
	for _, p := range []api.Place{at(0, 5), at(-1, 0), at(0, -1), at(1, 0)} {
		if offset, e := place.Near(tooLong, p); offset != 0 || e != api.ErrLimit {
			t.Errorf("Near of too long a string, %v: %d, %d", p, offset, e)
		}
	}
}

// P2.2: Span.
func TestSpan(t *testing.T) {
	text := "ab\n\u00e9\U0001f600\nc"
	for _, c := range []struct {
		text     string
		from, to api.Place
		want     api.Span
		err      api.Errno
	}{
		{text, at(0, 0), at(2, 1), api.Span{From: 0, To: 11}, api.OK},
		{text, at(0, 1), at(1, 1), api.Span{From: 1, To: 5}, api.OK},
		{text, at(1, 1), at(1, 3), api.Span{From: 5, To: 9}, api.OK},
		{text, at(0, 2), at(1, 0), api.Span{From: 2, To: 3}, api.OK},
		{text, at(1, 3), at(1, 3), api.Span{From: 9, To: 9}, api.OK},
		{"", at(0, 0), at(0, 0), api.Span{}, api.OK},
		{full, at(0, 1), at(0, api.MaxText), api.Span{From: 1, To: api.MaxText}, api.OK},
		{text, at(1, 2), at(2, 0), api.Span{}, api.ErrArg},
		{text, at(0, 0), at(1, 2), api.Span{}, api.ErrArg},
		{text, at(0, 3), at(2, 0), api.Span{}, api.ErrArg},
		{text, at(0, 0), at(3, 0), api.Span{}, api.ErrArg},
		{text, at(-1, 0), at(0, 0), api.Span{}, api.ErrArg},
		{text, at(0, 0), at(0, -1), api.Span{}, api.ErrArg},
		{text, at(0, 2), at(0, 1), api.Span{}, api.ErrArg},
		{text, at(1, 0), at(0, 2), api.Span{}, api.ErrArg},
		{text, at(math.MaxInt, 0), at(math.MinInt, 0), api.Span{}, api.ErrArg},
		{tooLong, at(0, 0), at(0, 1), api.Span{}, api.ErrLimit},
		{tooLong, at(0, 1), at(0, 0), api.Span{}, api.ErrLimit},
		{tooLong, at(1, 0), at(0, -1), api.Span{}, api.ErrLimit},
	} {
		if s, e := place.Span(c.text, c.from, c.to); s != c.want || e != c.err {
			t.Errorf("Span(%.20q, %v, %v) = %v, %d, not %v, %d", c.text, c.from, c.to, s, e, c.want, c.err)
		}
	}
}

// P2.3: Width.
func TestWidth(t *testing.T) {
	for _, c := range []struct {
		text string
		want int
		err  api.Errno
	}{
		{"", 0, api.OK}, {"abc", 3, api.OK}, {"\n", 1, api.OK}, {"\n\na\r\n", 5, api.OK}, {"a\u00e9b", 3, api.OK}, {"\u20ac\uffff\ufffd", 3, api.OK},
		{"\U00010000\n\U0010ffff", 5, api.OK}, {"\x80\xff", 2, api.OK}, {"\xe2\x82\xf0\x9f\x98", 5, api.OK}, {"\xc0\x80\xe0\x80\x80\xf0\x80\x80\x80", 9, api.OK},
		{"\xed\xa0\x80", 3, api.OK}, {"\xf4\x90\x80\x80", 4, api.OK},
		{full, api.MaxText, api.OK}, {feeds, api.MaxText, api.OK}, {wide, api.MaxText / 2, api.OK}, {broken, api.MaxText, api.OK},
		{tooLong, 0, api.ErrLimit}, {wide + "a", 0, api.ErrLimit},
	} {
		if width, e := place.Width(c.text); width != c.want || e != c.err {
			t.Errorf("Width(%.20q) = %d, %d, not %d, %d", c.text, width, e, c.want, c.err)
		}
	}
}
