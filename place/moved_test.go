package place_test

import (
	"math"
	"math/rand"
	"slices"
	"testing"

	"marginalia/api"
	"marginalia/place"
	"marginalia/rope"
)

func ed(from, to int, text string) api.Edit { return api.Edit{From: from, To: to, New: text} }

// P2.4: places before, at, inside of and after edits, and ones that come to be inside of a character.
func TestMoved(t *testing.T) {
	for _, c := range []struct {
		text  string
		p     api.Place
		edits []api.Edit
		want  api.Place
	}{
		{"", at(0, 0), nil, at(0, 0)},
		{"ab\ncd", at(1, 1), nil, at(1, 1)},
		{"ab\ncd", at(1, 1), []api.Edit{ed(0, 0, "x\n")}, at(2, 1)},
		{"ab\ncd", at(1, 1), []api.Edit{ed(2, 3, "")}, at(0, 3)},
		{"ab\ncd", at(0, 1), []api.Edit{ed(4, 5, "\n\n")}, at(0, 1)},
		{"ab\ncd", at(1, 0), []api.Edit{ed(3, 3, "x")}, at(1, 1)},
		{"ab\ncd", at(1, 0), []api.Edit{ed(3, 3, "x"), ed(3, 3, "\ny"), ed(3, 4, "z")}, at(2, 1)},
		{"ab\ncd", at(0, 1), []api.Edit{ed(0, 4, "x\nyz")}, at(1, 2)},
		{"ab\ncd", at(0, 0), []api.Edit{ed(0, 4, "xyz")}, at(0, 0)},
		{"ab\ncd", at(1, 1), []api.Edit{ed(0, 4, "xyz")}, at(0, 3)},
		{"ab\ncd", at(1, 2), []api.Edit{ed(0, 5, "")}, at(0, 0)},
		{"", at(0, 0), []api.Edit{ed(0, 0, "a\nb")}, at(1, 1)},
		{"\u00e9b", at(0, 1), []api.Edit{ed(0, 2, "\U0001f600")}, at(0, 2)},
		// what stands around an edit becomes a character
		{"\xc3x\xa9", at(0, 1), []api.Edit{ed(1, 2, "")}, at(0, 0)},
		{"\xc3x\xa9", at(0, 2), []api.Edit{ed(1, 2, "")}, at(0, 0)},
		{"\xc3x\xa9", at(0, 3), []api.Edit{ed(1, 2, "")}, at(0, 1)},
		{"a\xe2\x82", at(0, 2), []api.Edit{ed(3, 3, "\xac")}, at(0, 1)},
		{"a\xe2\x82", at(0, 3), []api.Edit{ed(3, 3, "\xac")}, at(0, 2)},
		{"a\xf0\x9f\x98x\x80", at(0, 2), []api.Edit{ed(4, 5, "")}, at(0, 1)},
		{"a\xf0\x9f\x98x\x80", at(0, 3), []api.Edit{ed(4, 5, "")}, at(0, 1)},
		{"a\xf0\x9f\x98x\x80", at(0, 4), []api.Edit{ed(4, 5, "")}, at(0, 1)},
		{"a\xf0\x9f\x98x\x80", at(0, 5), []api.Edit{ed(4, 5, "")}, at(0, 1)},
		{"a\xf0\x9f\x98x\x80", at(0, 6), []api.Edit{ed(4, 5, "")}, at(0, 3)},
		{"\n\xf0x\x80", at(1, 1), []api.Edit{ed(1, 1, "\n"), ed(2, 3, "\x9f\x98")}, at(2, 0)},
		// an edit cuts a character
		{"\U0001f600", at(0, 2), []api.Edit{ed(2, 2, "\n")}, at(1, 2)},
		{"\U0001f600b", at(0, 3), []api.Edit{ed(3, 4, "")}, at(0, 4)},
		// as long as may be
		{full[1:], at(0, 5), []api.Edit{ed(0, 0, "\n")}, at(1, 5)},
		{full, at(0, api.MaxText), []api.Edit{ed(0, 1, "\n")}, at(1, api.MaxText-1)},
		{"ab", at(0, 1), make([]api.Edit, api.MaxEdits), at(0, 1)},
	} {
		if p, e := place.Moved(c.text, c.p, c.edits); p != c.want || e != api.OK {
			t.Errorf("Moved(%.20q, %v, %v) = %v, %d, not %v", c.text, c.p, c.edits, p, e, c.want)
		}
	}
}

// P2.4: Offset's errors, and then Check's.
func TestMovedErrors(t *testing.T) {
	many := make([]api.Edit, api.MaxEdits+1)
	for _, c := range []struct {
		text  string
		p     api.Place
		edits []api.Edit
		want  api.Errno
	}{
		{tooLong, at(0, 0), nil, api.ErrLimit},
		{tooLong, at(1, 0), []api.Edit{ed(2, 1, "")}, api.ErrLimit},
		{"ab", at(0, 3), nil, api.ErrArg},
		{"ab", at(1, 0), many, api.ErrArg},
		{"ab", at(-1, 0), []api.Edit{ed(0, 0, tooLong)}, api.ErrArg},
		{"\U0001f600", at(0, 1), many, api.ErrArg},
		{"ab", at(0, -1), many, api.ErrArg},
		{"ab", at(math.MinInt, math.MaxInt), nil, api.ErrArg},
		{"ab", at(0, 1), many, api.ErrLimit},
		{"ab", at(0, 1), slices.Repeat([]api.Edit{ed(2, 1, "")}, api.MaxEdits+1), api.ErrLimit},
		{"ab", at(0, 1), []api.Edit{ed(2, 1, "")}, api.ErrArg},
		{"ab", at(0, 1), []api.Edit{ed(0, 3, "")}, api.ErrArg},
		{"ab", at(0, 1), []api.Edit{ed(-1, 1, "")}, api.ErrArg},
		{"ab", at(0, 1), []api.Edit{ed(0, 2, ""), ed(1, 2, "")}, api.ErrArg},
		{"ab", at(0, 1), []api.Edit{ed(0, 0, tooLong), ed(math.MaxInt, math.MinInt, "")}, api.ErrArg},
		{"ab", at(0, 1), []api.Edit{ed(0, 0, full[1:])}, api.ErrFull},
		{full, at(0, 1), []api.Edit{ed(0, 0, "x")}, api.ErrFull},
	} {
		if p, e := place.Moved(c.text, c.p, c.edits); p != (api.Place{}) || e != c.want {
			t.Errorf("Moved(%.20q, %v, %d edits) = %v, %d, not %d", c.text, c.p, len(c.edits), p, e, c.want)
		}
	}
}

// P2.4: all places of strings of all sorts of characters, over edits of all sorts.
func TestMovedByModel(t *testing.T) {
	r := rand.New(rand.NewSource(3))
	for range 20000 {
		text := randomText(r, 6)
		edits := randomEdits(r, len(text))
		kept := slices.Clone(edits)
		changed, e := rope.Apply(text, edits)
		if e != api.OK {
			t.Fatalf("Apply(%q, %v): %d", text, edits, e)
		}
		for offset, p := range modelPlaces(text) {
			if p == inside {
				continue
			}
			want := modelMoved(text, offset, edits)
			moved, e := place.Moved(text, p, edits)
			if moved != want || e != api.OK {
				t.Fatalf("Moved(%q, %v, %v) = %v, %d, not %v", text, p, edits, moved, e, want)
			}
			if _, e := place.Offset(changed, moved); e != api.OK {
				t.Fatalf("Moved(%q, %v, %v) = %v, which is no place of %q", text, p, edits, moved, changed)
			}
		}
		if !slices.Equal(edits, kept) {
			t.Fatalf("the edits were changed: %v, %v", kept, edits)
		}
	}
}
