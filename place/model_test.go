package place_test

import (
	"math/rand"
	"slices"
	"strings"
	"testing"

	"marginalia/api"
)

// The models say again, in the plainest way, what the document says: the tests hold the package against them.

// modelCharacter returns the number of bytes and the width of the character at the beginning of a string that is not empty.
func modelCharacter(text string) (size, width int) {
	for size := 1; size <= min(4, len(text)); size++ {
		if c, ok := modelDecode(text[:size]); ok && c >= 0x10000 {
			return size, 2
		} else if ok {
			return size, 1
		}
	}
	return 1, 1
}

// modelDecode returns the character that all bytes of a string, which are at most four, are.
func modelDecode(text string) (int, bool) {
	marks := []struct{ mask, mark, least int }{{0x80, 0, 0}, {0xe0, 0xc0, 0x80}, {0xf0, 0xe0, 0x800}, {0xf8, 0xf0, 0x10000}}
	m := marks[len(text)-1]
	if int(text[0])&m.mask != m.mark {
		return 0, false
	}
	c := int(text[0]) &^ m.mask
	for _, b := range []byte(text[1:]) {
		if b&0xc0 != 0x80 {
			return 0, false
		}
		c = c<<6 | int(b&0x3f)
	}
	isSurrogate := 0xd800 <= c && c <= 0xdfff
	return c, c >= m.least && c <= 0x10ffff && !isSurrogate
}

var inside = api.Place{Line: -1, Column: -1}

// modelPlaces returns the place of each offset, or inside.
func modelPlaces(text string) []api.Place {
	places := slices.Repeat([]api.Place{inside}, len(text)+1)
	p := api.Place{}
	for offset := 0; offset < len(text); {
		places[offset] = p
		size, width := modelCharacter(text[offset:])
		p.Column += width
		if text[offset] == '\n' {
			p = api.Place{Line: p.Line + 1, Column: 0}
		}
		offset += size
	}
	places[len(text)] = p
	return places
}

// modelNear goes through all offsets of the line: the last one whose column is not too great is the nearest.
func modelNear(places []api.Place, p api.Place) int {
	if p.Line < 0 {
		return 0
	}
	near := -1
	for offset, q := range places {
		if q.Line == p.Line && (near < 0 || q.Column <= p.Column) {
			near = offset
		}
	}
	if near < 0 {
		return len(places) - 1
	}
	return near
}

// modelMoved returns the place of an offset of the old string after edits, which are done byte by byte.
func modelMoved(text string, offset int, edits []api.Edit) api.Place {
	var changed strings.Builder
	at, moved := 0, -1
	copyTo := func(to int) {
		for ; at < to; at++ {
			if at == offset && moved < 0 {
				moved = changed.Len()
			}
			changed.WriteByte(text[at])
		}
	}
	for _, e := range edits {
		copyTo(e.From)
		if offset == e.From && e.From < e.To && moved < 0 {
			moved = changed.Len()
		}
		changed.WriteString(e.New)
		if e.From < offset && offset < e.To {
			moved = changed.Len()
		}
		at = e.To
	}
	copyTo(len(text))
	if moved < 0 {
		moved = changed.Len()
	}
	places := modelPlaces(changed.String())
	for places[moved] == inside {
		moved--
	}
	return places[moved]
}

// letters are bytes that begin characters, go on with them, or do neither, with the least and the greatest ones of each sort.
var letters = []byte("a\n\x7f\x80\x8f\x90\x9f\xa0\xbf\xc0\xc1\xc2\xdf\xe0\xe1\xec\xed\xee\xef\xf0\xf1\xf3\xf4\xf5\xff")

// parts are characters of each length, and what looks like one.
var parts = []string{"", "a", "\n", "\r", "\t", "\u00e9", "\u20ac", "\ufffd", "\uffff", "\U00010000", "\U0001f600", "\U0010ffff", "\xff", "\x80", "\xc3", "\xe2\x82", "\xf0\x9f\x98", "\xc0\x80", "\xe0\x9f\xbf", "\xf0\x8f\xbf\xbf", "\xed\xa0\x80", "\xf4\x90\x80\x80", "\xf5\x80\x80\x80"}

// forTexts calls a function with all strings of one, two and three letters, and of up to three parts.
func forTexts(do func(text string)) {
	for _, a := range letters {
		do(string([]byte{a}))
		for _, b := range letters {
			do(string([]byte{a, b}))
			for _, c := range letters {
				do(string([]byte{a, b, c}))
			}
		}
	}
	for _, a := range parts {
		for _, b := range parts {
			for _, c := range parts {
				do(a + b + c)
			}
		}
	}
}

func randomText(r *rand.Rand, most int) string {
	var b strings.Builder
	for range r.Intn(most + 1) {
		b.WriteString(parts[r.Intn(len(parts))])
		if r.Intn(4) == 0 {
			b.WriteByte(letters[r.Intn(len(letters))])
		}
	}
	return b.String()
}

// randomEdits returns edits that often stand at one offset, put nothing, or end inside of a character.
func randomEdits(r *rand.Rand, length int) []api.Edit {
	count := r.Intn(4)
	offsets := make([]int, 2*count)
	for i := range offsets {
		offsets[i] = r.Intn(length + 1)
	}
	slices.Sort(offsets)
	var edits []api.Edit
	for i := range count {
		e := api.Edit{From: offsets[2*i], To: offsets[2*i+1], New: randomText(r, 2)}
		if r.Intn(3) == 0 {
			e.To = e.From
		}
		edits = append(edits, e)
	}
	return edits
}

// The model itself is held against some characters that are known.
func TestModel(t *testing.T) {
	for _, c := range []struct {
		text        string
		size, width int
	}{
		{"a\u00e9", 1, 1}, {"\n", 1, 1}, {"\x00", 1, 1}, {"\x7f", 1, 1}, {"\u0080a", 2, 1}, {"\u07ff", 2, 1}, {"\u0800", 3, 1}, {"\ud7ff", 3, 1}, {"\ue000", 3, 1}, {"\uffff", 3, 1}, {"\U00010000", 4, 2}, {"\U0010ffffa", 4, 2},
		{"\x80", 1, 1}, {"\xc3a", 1, 1}, {"\xe2\x82", 1, 1}, {"\xf0\x9f\x98a", 1, 1}, {"\xc1\xbf", 1, 1}, {"\xe0\x9f\xbf", 1, 1}, {"\xf0\x8f\xbf\xbf", 1, 1}, {"\xed\xbf\xbf", 1, 1}, {"\xf4\x90\x80\x80", 1, 1}, {"\xf8\x88\x80\x80\x80", 1, 1},
	} {
		if size, width := modelCharacter(c.text); size != c.size || width != c.width {
			t.Errorf("%q: %d bytes, width %d", c.text, size, width)
		}
	}
}
