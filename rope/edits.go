package rope

import (
	"strings"

	"marginalia/api"
)

// Check returns what is wrong with edits of a string.
func Check(text string, edits []api.Edit) api.Errno {
	if len(text) > api.MaxText {
		return api.ErrLimit
	}
	return check(len(text), edits)
}

// check is Check for a string with so many bytes, which are not too many.
func check(length int, edits []api.Edit) api.Errno {
	if len(edits) > api.MaxEdits {
		return api.ErrLimit
	}
	if !areRising(edits, length) {
		return api.ErrArg
	}
	for _, e := range edits {
		length += growth(e)
	}
	if length > api.MaxText {
		return api.ErrFull
	}
	return api.OK
}

// areRising reports whether the spans of edits are spans of a string with so many bytes, none of which begins before the one before it ends.
func areRising(edits []api.Edit, length int) bool {
	last := 0
	for _, e := range edits {
		if e.From < last || !isSpan(e.From, e.To, length) {
			return false
		}
		last = e.To
	}
	return true
}

func isSpan(from, to, length int) bool { return 0 <= from && from <= to && to <= length }

// growth returns how much longer an edit makes its string.
func growth(e api.Edit) int { return len(e.New) - (e.To - e.From) }

// Apply returns the string after edits.
func Apply(text string, edits []api.Edit) (string, api.Errno) {
	if err := Check(text, edits); err != api.OK {
		return "", err
	}
	return edited(text, api.Span{From: 0, To: len(text)}, edits), api.OK
}

// edited returns the bytes of a span of a string after edits inside of it.
func edited(text string, s api.Span, edits []api.Edit) string {
	var b strings.Builder
	at := s.From
	for _, e := range edits {
		b.WriteString(text[at:e.From])
		b.WriteString(e.New)
		at = e.To
	}
	b.WriteString(text[at:s.To])
	return b.String()
}

// Invert returns the edits of the new string that make the old one of it.
func Invert(text string, edits []api.Edit) ([]api.Edit, api.Errno) {
	if err := Check(text, edits); err != api.OK {
		return nil, err
	}
	back := make([]api.Edit, len(edits))
	for i, s := range placed(edits) {
		back[i] = api.Edit{From: s.From, To: s.To, New: text[edits[i].From:edits[i].To]}
	}
	return back, api.OK
}

// placed returns where the New of each edit stands in the new string.
func placed(edits []api.Edit) []api.Span {
	spans := make([]api.Span, len(edits))
	shift := 0
	for i, e := range edits {
		from := e.From + shift
		spans[i] = api.Span{From: from, To: from + len(e.New)}
		shift += growth(e)
	}
	return spans
}

// Move returns where an offset of the old string is in the new one.
func Move(edits []api.Edit, offset int, after bool) (int, api.Errno) {
	if len(edits) > api.MaxEdits {
		return 0, api.ErrLimit
	}
	if !areRising(edits, api.MaxText) || !isSpan(0, offset, api.MaxText) {
		return 0, api.ErrArg
	}
	shift := 0
	for _, e := range edits {
		if e.From < offset && offset < e.To {
			return e.From + shift + len(e.New), api.OK
		}
		if !isBefore(e, offset, after) {
			break
		}
		shift += growth(e)
	}
	return offset + shift, api.OK
}

// isBefore reports whether an edit that offset is not inside of is before the offset; where nothing is replaced just at the offset, after decides.
func isBefore(e api.Edit, offset int, after bool) bool {
	if e.From == offset && e.To == offset {
		return after
	}
	return e.To <= offset
}

// Diff returns the edit that makes the new string of the old one, if they are different.
func Diff(old, new string) ([]api.Edit, api.Errno) {
	if len(old) > api.MaxText || len(new) > api.MaxText {
		return nil, api.ErrLimit
	}
	if old == new {
		return nil, api.OK
	}
	from := sameBegin(old, new)
	same := sameEnd(old[from:], new[from:])
	return []api.Edit{{From: from, To: len(old) - same, New: new[from : len(new)-same]}}, api.OK
}

// sameBegin returns how many bytes at the beginning are equal.
func sameBegin(a, b string) int {
	most := min(len(a), len(b))
	for i := range most {
		if a[i] != b[i] {
			return i
		}
	}
	return most
}

// sameEnd returns how many bytes at the end are equal.
func sameEnd(a, b string) int {
	most := min(len(a), len(b))
	for i := range most {
		if a[len(a)-1-i] != b[len(b)-1-i] {
			return i
		}
	}
	return most
}
