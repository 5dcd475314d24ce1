package rope_test

import (
	"math"
	"math/rand"
	"strings"
	"testing"

	"marginalia/api"
	"marginalia/rope"
)

// checkRope checks all that a rope of a string shows of it.
func checkRope(t *testing.T, r *rope.Rope, text string) {
	t.Helper()
	if r.Text() != text || r.Len() != len(text) {
		t.Fatalf("the rope of %q is %q, of %d bytes", text, r.Text(), r.Len())
	}
	if r.Pieces() > len(text) || r.Pieces() == 0 && text != "" {
		t.Fatalf("the rope of %q has %d pieces", text, r.Pieces())
	}
	lines := strings.Split(text, "\n")
	if r.Lines() != len(lines) {
		t.Fatalf("the rope of %q has %d lines", text, r.Lines())
	}
	from := 0
	for n, line := range lines {
		if s, e := r.Line(n); s != (api.Span{From: from, To: from + len(line)}) || e != api.OK {
			t.Fatalf("line %d of the rope of %q is %v, %d", n, text, s, e)
		}
		from += len(line) + 1
	}
	for _, n := range []int{-1, len(lines), math.MinInt, math.MaxInt} {
		if s, e := r.Line(n); s != (api.Span{}) || e != api.ErrArg {
			t.Fatalf("line %d of the rope of %q is %v, %d", n, text, s, e)
		}
	}
}

func checkSlices(t *testing.T, r *rope.Rope, text string) {
	t.Helper()
	for from := range len(text) + 1 {
		for to := from; to <= len(text); to++ {
			if s, e := r.Slice(api.Span{From: from, To: to}); s != text[from:to] || e != api.OK {
				t.Fatalf("from %d to %d the rope of %q is %q, %d", from, to, text, s, e)
			}
		}
	}
}

// P1.6: New, and what a rope of it shows.
func TestNew(t *testing.T) {
	for _, text := range []string{"", "a", "\n", "\n\n", "one\ntwo\n", "\none\n\ntwo", "a\r\nb", "\xff\x00\u00e9"} {
		r := mustNew(t, text)
		checkRope(t, r, text)
		checkSlices(t, r, text)
		if want := min(len(text), 1); r.Pieces() != want {
			t.Errorf("New(%q) has %d pieces", text, r.Pieces())
		}
		if u, e := r.Undo(); u != nil || e != api.ErrNone {
			t.Errorf("Undo of New(%q): %v, %d", text, u, e)
		}
	}
	checkRope(t, mustNew(t, full), full)
	if r, e := rope.New(tooLong); r != nil || e != api.ErrLimit {
		t.Errorf("New of too long a string: %v, %d", r, e)
	}
}

// P1.6: what is no span.
func TestSliceErrors(t *testing.T) {
	whole := mustNew(t, "abcd")
	for _, r := range []*rope.Rope{whole, mustEdit(t, whole, ed(1, 3, "bc"))} {
		for _, s := range []api.Span{{From: -1, To: 2}, {From: 3, To: 2}, {From: 0, To: 5}, {From: 5, To: 5}, {From: -2, To: -1}, {From: math.MinInt, To: math.MaxInt}, {From: math.MaxInt, To: math.MinInt}, {From: math.MinInt, To: 0}, {From: 0, To: math.MaxInt}} {
			if x, e := r.Slice(s); x != "" || e != api.ErrArg {
				t.Errorf("Slice(%v) = %q, %d", s, x, e)
			}
		}
	}
}

// P1.6: Edit leaves the old rope as it is, and Undo finds it again.
func TestEdit(t *testing.T) {
	r := mustNew(t, "one\ntwo\n")
	s := mustEdit(t, r, ed(3, 4, "-"), ed(7, 7, "!"))
	checkRope(t, s, "one-two!\n")
	checkSlices(t, s, "one-two!\n")
	checkRope(t, r, "one\ntwo\n")
	if s.Pieces() != 5 || r.Pieces() != 1 {
		t.Errorf("%d pieces of %d", s.Pieces(), r.Pieces())
	}
	other := mustEdit(t, r, ed(0, 8, ""))
	checkRope(t, other, "")
	if other.Pieces() != 0 {
		t.Errorf("an empty rope has %d pieces", other.Pieces())
	}
	checkRope(t, mustEdit(t, other, ed(0, 0, "a\n")), "a\n")
	same := mustEdit(t, s)
	checkRope(t, same, "one-two!\n")
	for _, c := range []struct{ after, before *rope.Rope }{{s, r}, {other, r}, {same, s}} {
		if u, e := c.after.Undo(); e != api.OK || u.Text() != c.before.Text() || u.Pieces() != c.before.Pieces() {
			t.Errorf("Undo of %q: %q, %d", c.after.Text(), u.Text(), e)
		}
	}
}

// P1.6: the length of a rope, as long as may be and by one too long.
func TestEditLimits(t *testing.T) {
	r := mustNew(t, full[1:])
	long := mustEdit(t, r, ed(5, 5, "x"))
	checkRope(t, long, full[:5]+"x"+full[6:])
	for _, c := range []struct {
		edits []api.Edit
		want  api.Errno
	}{
		{[]api.Edit{ed(0, 0, "y")}, api.ErrFull},
		{[]api.Edit{ed(0, 1, "yz")}, api.ErrFull},
		{[]api.Edit{ed(0, 0, "y"), ed(api.MaxText+1, api.MaxText+1, "")}, api.ErrArg},
		{make([]api.Edit, api.MaxEdits+1), api.ErrLimit},
		{make([]api.Edit, api.MaxEdits), api.OK},
		{[]api.Edit{ed(0, 1, ""), ed(api.MaxText, api.MaxText, "y")}, api.OK},
	} {
		if s, e := long.Edit(c.edits); e != c.want || (s == nil) != (e != api.OK) {
			t.Errorf("%d edits: error %d, not %d", len(c.edits), e, c.want)
		}
	}
}

// P1.6 and P1.7: ropes after many edits, and all the way back.
func TestManyEdits(t *testing.T) {
	r := rand.New(rand.NewSource(4))
	for range 60 {
		texts := []string{randomText(r, 40)}
		last := mustNew(t, texts[0])
		for range 40 {
			text := texts[len(texts)-1]
			edits := randomEdits(r, len(text), 4)
			next := mustEdit(t, last, edits...)
			most := last.Pieces()
			for _, e := range edits {
				most += 2 + min(len(e.New), 1)
			}
			if next.Pieces() > most {
				t.Fatalf("%v make %d pieces of %d", edits, next.Pieces(), last.Pieces())
			}
			checkRope(t, last, text)
			texts, last = append(texts, modelApply(text, edits)), next
		}
		checkSlices(t, last, texts[len(texts)-1])
		for len(texts) > 1 {
			checkRope(t, last, texts[len(texts)-1])
			texts = texts[:len(texts)-1]
			before, e := last.Undo()
			if e != api.OK || before.Text() != texts[len(texts)-1] {
				t.Fatalf("Undo: %q, %d, not %q", before.Text(), e, texts[len(texts)-1])
			}
			last = before
		}
		if _, e := last.Undo(); e != api.ErrNone {
			t.Fatalf("Undo of New: error %d", e)
		}
	}
}

// P1.6 and rule 3 of DOC.md: nil and zero ropes.
func TestNoRope(t *testing.T) {
	for _, r := range []*rope.Rope{nil, {}, new(rope.Rope)} {
		if r.Text() != "" || r.Len() != 0 || r.Lines() != 0 || r.Pieces() != 0 {
			t.Errorf("%q, %d, %d, %d", r.Text(), r.Len(), r.Lines(), r.Pieces())
		}
		for _, s := range []api.Span{{}, {From: 2, To: 1}} {
			if x, e := r.Slice(s); x != "" || e != api.ErrNil {
				t.Errorf("Slice(%v) = %q, %d", s, x, e)
			}
		}
		for _, edits := range [][]api.Edit{nil, {ed(0, 0, "x")}, {ed(1, 0, "")}, make([]api.Edit, api.MaxEdits+1)} {
			if s, e := r.Edit(edits); s != nil || e != api.ErrNil {
				t.Errorf("Edit(%d edits) = %v, %d", len(edits), s, e)
			}
		}
		if s, e := r.Undo(); s != nil || e != api.ErrNil {
			t.Errorf("Undo() = %v, %d", s, e)
		}
		for _, n := range []int{-1, 0, 1} {
			if s, e := r.Line(n); s != (api.Span{}) || e != api.ErrNil {
				t.Errorf("Line(%d) = %v, %d", n, s, e)
			}
		}
	}
}

// P1 and rule 5 of DOC.md: any ints are errors at most, and the same ones of all functions.
func TestAnyInts(t *testing.T) {
	r := rand.New(rand.NewSource(6))
	ints := []int{math.MinInt, math.MinInt + 1, -1, 0, 1, 2, 3, 4, api.MaxText, api.MaxText + 1, math.MaxInt - 1, math.MaxInt}
	whole := mustNew(t, "abc")
	for range 20000 {
		var edits []api.Edit
		for range r.Intn(4) {
			edits = append(edits, ed(ints[r.Intn(len(ints))], ints[r.Intn(len(ints))], "x"))
		}
		want := api.OK
		last := 0
		for _, e := range edits {
			if e.From < last || e.To < e.From || e.To > 3 {
				want = api.ErrArg
				break
			}
			last = e.To
		}
		got := rope.Check("abc", edits)
		_, applied := rope.Apply("abc", edits)
		_, inverted := rope.Invert("abc", edits)
		_, merged := rope.Merge("abc", nil, edits)
		_, edited := whole.Edit(edits)
		for _, e := range []api.Errno{got, applied, inverted, merged, edited} {
			if e != want {
				t.Fatalf("%v: %d, %d, %d, %d, %d, not %d", edits, got, applied, inverted, merged, edited, want)
			}
		}
		offset := ints[r.Intn(len(ints))]
		_, moved := rope.Move(edits, offset, true)
		if want == api.OK && (offset < 0 || offset > api.MaxText) != (moved == api.ErrArg) {
			t.Fatalf("Move(%v, %d): error %d", edits, offset, moved)
		}
	}
}
