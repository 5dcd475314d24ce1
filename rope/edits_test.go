package rope_test

import (
	"math"
	"math/rand"
	"slices"
	"strings"
	"testing"

	"marginalia/api"
	"marginalia/rope"
)

func ed(from, to int, text string) api.Edit { return api.Edit{From: from, To: to, New: text} }

var (
	full    = strings.Repeat("a", api.MaxText)
	tooLong = full + "a"
)

// checks are strings and edits with Check's results.
var checks = []struct {
	name  string
	text  string
	edits []api.Edit
	want  api.Errno
}{
	{"nothing", "", nil, api.OK},
	{"an empty list", "ab", []api.Edit{}, api.OK},
	{"an empty edit", "", []api.Edit{{}}, api.OK},
	{"the whole string", "ab", []api.Edit{ed(0, 2, "c")}, api.OK},
	{"several at one offset", "ab", []api.Edit{ed(1, 1, "x"), ed(1, 1, "y"), ed(1, 2, "z"), ed(2, 2, "")}, api.OK},
	{"the end", "ab", []api.Edit{ed(2, 2, "x")}, api.OK},
	{"To after the end", "ab", []api.Edit{ed(0, 3, "")}, api.ErrArg},
	{"From after the end", "ab", []api.Edit{ed(3, 3, "")}, api.ErrArg},
	{"From below 0", "ab", []api.Edit{ed(-1, 1, "")}, api.ErrArg},
	{"both below 0", "ab", []api.Edit{ed(-2, -1, "")}, api.ErrArg},
	{"To before From", "ab", []api.Edit{ed(1, 0, "")}, api.ErrArg},
	{"the greatest int", "ab", []api.Edit{ed(0, math.MaxInt, "")}, api.ErrArg},
	{"the least int", "ab", []api.Edit{ed(math.MinInt, 1, "")}, api.ErrArg},
	{"all ints", "ab", []api.Edit{ed(math.MinInt, math.MaxInt, "")}, api.ErrArg},
	{"the other way round", "ab", []api.Edit{ed(math.MaxInt, math.MinInt, "")}, api.ErrArg},
	{"a byte in common", "abc", []api.Edit{ed(0, 2, ""), ed(1, 3, "")}, api.ErrArg},
	{"one inside of another", "abc", []api.Edit{ed(0, 3, ""), ed(1, 1, "x")}, api.ErrArg},
	{"falling order", "abc", []api.Edit{ed(2, 3, ""), ed(0, 1, "")}, api.ErrArg},
	{"at the beginning of the one before", "abc", []api.Edit{ed(1, 2, ""), ed(1, 1, "x")}, api.ErrArg},
	{"the second is wrong", "abc", []api.Edit{ed(0, 1, ""), ed(1, 4, "")}, api.ErrArg},
	{"as many edits as may be", "", make([]api.Edit, api.MaxEdits), api.OK},
	{"one edit more", "", make([]api.Edit, api.MaxEdits+1), api.ErrLimit},
	{"the longest string", full, nil, api.OK},
	{"one byte more", tooLong, nil, api.ErrLimit},
	{"as long as may be", "ab", []api.Edit{ed(0, 0, full[2:])}, api.OK},
	{"one byte too long", "ab", []api.Edit{ed(0, 0, full[1:])}, api.ErrFull},
	{"too long by two together", "ab", []api.Edit{ed(0, 0, full[:10000]), ed(2, 2, full[:9999])}, api.ErrFull},
	{"too long but for what is taken away", full, []api.Edit{ed(0, 0, "x"), ed(19999, 20000, "")}, api.OK},
	{"the string's length is first", tooLong, make([]api.Edit, api.MaxEdits+1), api.ErrLimit},
	{"the string's length is before its spans", tooLong, []api.Edit{ed(3, 2, "")}, api.ErrLimit},
	{"the number of edits is before their spans", "", slices.Repeat([]api.Edit{ed(3, 2, "")}, api.MaxEdits+1), api.ErrLimit},
	{"spans are before the new length", "ab", []api.Edit{ed(0, 0, tooLong), ed(5, 5, "")}, api.ErrArg},
}

// P1.1.
func TestCheck(t *testing.T) {
	for _, c := range checks {
		if e := rope.Check(c.text, c.edits); e != c.want {
			t.Errorf("%s: error %d, not %d", c.name, e, c.want)
		}
	}
}

// P1.1: the functions that return Check's errors first, with zero values.
func TestCheckedFirst(t *testing.T) {
	for _, c := range checks {
		if s, e := rope.Apply(c.text, c.edits); e != c.want || e != api.OK && s != "" {
			t.Errorf("Apply, %s: %d bytes, error %d, not %d", c.name, len(s), e, c.want)
		}
		if l, e := rope.Invert(c.text, c.edits); e != c.want || e != api.OK && len(l) > 0 {
			t.Errorf("Invert, %s: %d edits, error %d, not %d", c.name, len(l), e, c.want)
		}
		if l, e := rope.Merge(c.text, c.edits, nil); e != c.want || e != api.OK && len(l) > 0 {
			t.Errorf("Merge, %s: %d edits, error %d, not %d", c.name, len(l), e, c.want)
		}
		r, e := rope.New(c.text)
		if e != api.OK {
			continue
		}
		if s, e := r.Edit(c.edits); e != c.want || e != api.OK && s != nil || r.Text() != c.text {
			t.Errorf("Edit, %s: error %d, not %d", c.name, e, c.want)
		}
	}
}

// P1.2: the example, and what the document says of edits at one offset.
func TestApplyAndInvert(t *testing.T) {
	for _, c := range []struct {
		text  string
		edits []api.Edit
		want  string
		back  []api.Edit
	}{
		{"abcd", []api.Edit{ed(1, 2, "x"), ed(2, 2, "yz")}, "axyzcd", []api.Edit{ed(1, 2, "b"), ed(2, 4, "")}},
		{"", nil, "", nil},
		{"abc", nil, "abc", nil},
		{"", []api.Edit{ed(0, 0, "")}, "", []api.Edit{ed(0, 0, "")}},
		{"", []api.Edit{ed(0, 0, "ab")}, "ab", []api.Edit{ed(0, 2, "")}},
		{"ab", []api.Edit{ed(0, 2, "")}, "", []api.Edit{ed(0, 0, "ab")}},
		{"ab", []api.Edit{ed(1, 1, "x"), ed(1, 1, "y"), ed(1, 1, "z")}, "axyzb", []api.Edit{ed(1, 2, ""), ed(2, 3, ""), ed(3, 4, "")}},
		{"abcd", []api.Edit{ed(0, 2, "x"), ed(2, 4, "yzw")}, "xyzw", []api.Edit{ed(0, 1, "ab"), ed(1, 4, "cd")}},
		{"abcd", []api.Edit{ed(0, 2, ""), ed(2, 2, "q"), ed(2, 3, "")}, "qd", []api.Edit{ed(0, 0, "ab"), ed(0, 1, ""), ed(1, 1, "c")}},
		{"a\xffb\x00", []api.Edit{ed(1, 2, "\xc3"), ed(4, 4, "\n")}, "a\xc3b\x00\n", []api.Edit{ed(1, 2, "\xff"), ed(4, 5, "")}},
	} {
		if s, e := rope.Apply(c.text, c.edits); s != c.want || e != api.OK {
			t.Errorf("Apply(%q, %v) = %q, %d", c.text, c.edits, s, e)
		}
		if back, e := rope.Invert(c.text, c.edits); !slices.Equal(back, c.back) || e != api.OK {
			t.Errorf("Invert(%q, %v) = %v, %d", c.text, c.edits, back, e)
		}
	}
}

// P1.2 and P1.7.
func TestThereAndBack(t *testing.T) {
	r := rand.New(rand.NewSource(1))
	for range 20000 {
		text := randomText(r, 12)
		edits := randomEdits(r, len(text), 5)
		kept := slices.Clone(edits)
		changed := mustApply(t, text, edits)
		if want := modelApply(text, edits); changed != want {
			t.Fatalf("Apply(%q, %v) = %q, not %q", text, edits, changed, want)
		}
		back, e := rope.Invert(text, edits)
		if e != api.OK || len(back) != len(edits) {
			t.Fatalf("Invert(%q, %v) = %v, %d", text, edits, back, e)
		}
		for i, b := range back {
			if changed[b.From:b.To] != edits[i].New || b.New != text[edits[i].From:edits[i].To] {
				t.Fatalf("Invert(%q, %v) = %v", text, edits, back)
			}
		}
		if old := mustApply(t, changed, back); old != text {
			t.Fatalf("%q, %v, and back: %q", text, edits, old)
		}
		if !slices.Equal(edits, kept) {
			t.Fatalf("the edits were changed: %v, %v", kept, edits)
		}
	}
}

// P1.4: each place of an offset at edits.
func TestMove(t *testing.T) {
	insert := []api.Edit{ed(1, 3, "x"), ed(3, 3, "yy"), ed(3, 3, "zzz"), ed(3, 5, "w")}
	for _, c := range []struct {
		edits  []api.Edit
		offset int
		after  bool
		want   int
	}{
		{nil, 0, false, 0}, {nil, api.MaxText, true, api.MaxText}, {[]api.Edit{}, 7, true, 7},
		{[]api.Edit{ed(1, 3, "x")}, 2, false, 2}, {[]api.Edit{ed(1, 3, "x")}, 2, true, 2},
		{[]api.Edit{ed(1, 3, "x")}, 1, false, 1}, {[]api.Edit{ed(1, 3, "x")}, 1, true, 1},
		{[]api.Edit{ed(1, 3, "x")}, 3, false, 2}, {[]api.Edit{ed(1, 3, "x")}, 3, true, 2},
		{[]api.Edit{ed(1, 3, "")}, 2, true, 1}, {[]api.Edit{ed(1, 3, "")}, 4, true, 2},
		{[]api.Edit{ed(0, 0, "ab")}, 0, false, 0}, {[]api.Edit{ed(0, 0, "ab")}, 0, true, 2}, {[]api.Edit{ed(0, 0, "ab")}, 1, false, 3},
		{insert, 0, true, 0}, {insert, 1, true, 1}, {insert, 2, false, 2}, {insert, 3, false, 2}, {insert, 3, true, 7}, {insert, 4, false, 8}, {insert, 5, false, 8}, {insert, 6, true, 9},
		{[]api.Edit{ed(api.MaxText, api.MaxText, "ab")}, api.MaxText, false, api.MaxText},
		{[]api.Edit{ed(api.MaxText, api.MaxText, "ab")}, api.MaxText, true, api.MaxText + 2},
		{[]api.Edit{ed(0, 0, tooLong)}, api.MaxText, false, 2*api.MaxText + 1},
	} {
		if n, e := rope.Move(c.edits, c.offset, c.after); n != c.want || e != api.OK {
			t.Errorf("Move(%d edits, %d, %v) = %d, %d, not %d", len(c.edits), c.offset, c.after, n, e, c.want)
		}
	}
}

// P1.4: the errors, and which one is first.
func TestMoveErrors(t *testing.T) {
	many := make([]api.Edit, api.MaxEdits+1)
	for _, c := range []struct {
		edits  []api.Edit
		offset int
		want   api.Errno
	}{
		{many[1:], 0, api.OK},
		{many, 0, api.ErrLimit},
		{many, -1, api.ErrLimit},
		{slices.Repeat([]api.Edit{ed(2, 1, "")}, api.MaxEdits+1), 0, api.ErrLimit},
		{[]api.Edit{ed(0, api.MaxText, "")}, 0, api.OK},
		{[]api.Edit{ed(0, api.MaxText+1, "")}, 0, api.ErrArg},
		{[]api.Edit{ed(api.MaxText+1, api.MaxText+1, "")}, 0, api.ErrArg},
		{[]api.Edit{ed(-1, 0, "")}, 0, api.ErrArg},
		{[]api.Edit{ed(2, 1, "")}, 0, api.ErrArg},
		{[]api.Edit{ed(0, 2, ""), ed(1, 3, "")}, 0, api.ErrArg},
		{[]api.Edit{ed(5, 6, ""), ed(1, 1, "")}, 0, api.ErrArg},
		{[]api.Edit{ed(math.MinInt, math.MaxInt, "")}, 0, api.ErrArg},
		{nil, -1, api.ErrArg},
		{nil, api.MaxText + 1, api.ErrArg},
		{nil, math.MaxInt, api.ErrArg},
		{nil, math.MinInt, api.ErrArg},
	} {
		for _, after := range []bool{false, true} {
			if n, e := rope.Move(c.edits, c.offset, after); n != 0 || e != c.want {
				t.Errorf("Move(%d edits, %d, %v) = %d, %d, not %d", len(c.edits), c.offset, after, n, e, c.want)
			}
		}
	}
}

// P1.4 and P1.9.
func TestOffsets(t *testing.T) {
	r := rand.New(rand.NewSource(2))
	for range 10000 {
		text := randomText(r, 12)
		edits := randomEdits(r, len(text), 5)
		changed := mustApply(t, text, edits)
		want := modelMoves(len(text), edits)
		least := 0
		for offset := range len(text) + 1 {
			for _, after := range []bool{false, true} {
				n, e := rope.Move(edits, offset, after)
				if e != api.OK || n != want[point{offset, after}] {
					t.Fatalf("Move(%v, %d, %v) = %d, %d, not %d", edits, offset, after, n, e, want[point{offset, after}])
				}
				if n < least || n > len(changed) {
					t.Fatalf("Move(%v, %d, %v) = %d: the order has changed", edits, offset, after, n)
				}
				least = n
			}
		}
		checkUntouched(t, text, changed, edits)
	}
}

// checkUntouched checks that the bytes between two offsets that no edit's span meets are the same.
func checkUntouched(t *testing.T, text, changed string, edits []api.Edit) {
	t.Helper()
	for from := range len(text) + 1 {
		for to := from; to <= len(text); to++ {
			if slices.ContainsFunc(edits, func(e api.Edit) bool { return e.From < to && e.To > from }) {
				continue
			}
			a, _ := rope.Move(edits, from, true)
			b, _ := rope.Move(edits, to, false)
			if from < to && changed[a:b] != text[from:to] {
				t.Fatalf("%q, %v: the bytes from %d to %d are %q", text, edits, from, to, changed[a:b])
			}
		}
	}
}

// P1.5.
func TestDiff(t *testing.T) {
	for _, c := range []struct {
		old, new string
		want     []api.Edit
	}{
		{"abc", "abbc", []api.Edit{ed(2, 2, "b")}},
		{"", "", nil},
		{"abc", "abc", nil},
		{"", "ab", []api.Edit{ed(0, 0, "ab")}},
		{"ab", "", []api.Edit{ed(0, 2, "")}},
		{"aaa", "aa", []api.Edit{ed(2, 3, "")}},
		{"aa", "aaa", []api.Edit{ed(2, 2, "a")}},
		{"abc", "xbz", []api.Edit{ed(0, 3, "xbz")}},
		{"abc", "abx", []api.Edit{ed(2, 3, "x")}},
		{"abc", "xbc", []api.Edit{ed(0, 1, "x")}},
		{"abab", "ab", []api.Edit{ed(2, 4, "")}},
		{"\u00e9", "\u00ea", []api.Edit{ed(1, 2, "\xaa")}},
		{full, full, nil},
		{full, full[1:], []api.Edit{ed(api.MaxText-1, api.MaxText, "")}},
	} {
		if l, e := rope.Diff(c.old, c.new); !slices.Equal(l, c.want) || e != api.OK {
			t.Errorf("Diff(%q, %q) = %v, %d", c.old, c.new, l, e)
		}
	}
	for _, c := range []struct{ old, new string }{{tooLong, ""}, {"", tooLong}, {tooLong, tooLong}} {
		if l, e := rope.Diff(c.old, c.new); len(l) > 0 || e != api.ErrLimit {
			t.Errorf("Diff of %d and %d bytes: %d edits, %d", len(c.old), len(c.new), len(l), e)
		}
	}
}

// P1.5 and P1.10: for all pairs of short strings.
func TestLeast(t *testing.T) {
	texts := []string{""}
	for i := 0; len(texts[i]) < 5; i++ {
		texts = append(texts, texts[i]+"a", texts[i]+"b")
	}
	for _, old := range texts {
		for _, new := range texts {
			l, e := rope.Diff(old, new)
			if e != api.OK || mustApply(t, old, l) != new {
				t.Fatalf("Diff(%q, %q) = %v, %d", old, new, l, e)
			}
			if old == new {
				continue
			}
			if len(l) != 1 || l[0].To-l[0].From+len(l[0].New) != leastCost(old, new) {
				t.Fatalf("Diff(%q, %q) = %v, not the shortest", old, new, l)
			}
			from := l[0].From
			if from < len(old) && from < len(new) && old[from] == new[from] {
				t.Fatalf("Diff(%q, %q) = %v: more bytes are equal at the beginning", old, new, l)
			}
		}
	}
}

// leastCost tries each single edit.
func leastCost(old, new string) int {
	least := len(old) + len(new)
	for from := range len(old) + 1 {
		for to := from; to <= len(old); to++ {
			put := len(new) - from - (len(old) - to)
			if put >= 0 && old[:from] == new[:from] && old[to:] == new[from+put:] {
				least = min(least, to-from+put)
			}
		}
	}
	return least
}
