package rope_test

import (
	"math/rand"
	"slices"
	"testing"

	"marginalia/api"
	"marginalia/rope"
)

// P1.3.
func TestMerge(t *testing.T) {
	for _, c := range []struct {
		name          string
		text          string
		first, second []api.Edit
		want          []api.Edit
	}{
		{"nothing", "", nil, nil, nil},
		{"no second ones", "abc", []api.Edit{ed(0, 1, ""), ed(1, 1, "x")}, nil, []api.Edit{ed(0, 1, ""), ed(1, 1, "x")}},
		{"no first ones", "abc", nil, []api.Edit{ed(0, 1, ""), ed(1, 1, "x")}, []api.Edit{ed(0, 1, ""), ed(1, 1, "x")}},
		{"the second goes on behind the first", "abcdef", []api.Edit{ed(1, 3, "XY")}, []api.Edit{ed(2, 4, "ZZ")}, []api.Edit{ed(1, 4, "XZZ")}},
		{"the second begins before the first", "abcdef", []api.Edit{ed(2, 4, "XY")}, []api.Edit{ed(1, 3, "ZZ")}, []api.Edit{ed(1, 4, "ZZY")}},
		{"the second inside of the first", "abcdef", []api.Edit{ed(2, 3, "XYZ")}, []api.Edit{ed(3, 4, "")}, []api.Edit{ed(2, 3, "XZ")}},
		{"the first inside of the second", "abcdef", []api.Edit{ed(2, 3, "XYZ")}, []api.Edit{ed(1, 7, "q")}, []api.Edit{ed(1, 5, "q")}},
		{"apart by a byte, behind", "abcd", []api.Edit{ed(0, 1, "xyz")}, []api.Edit{ed(4, 4, "q")}, []api.Edit{ed(0, 1, "xyz"), ed(2, 2, "q")}},
		{"apart by a byte, before", "abcd", []api.Edit{ed(2, 3, "xyz")}, []api.Edit{ed(0, 1, "q")}, []api.Edit{ed(0, 1, "q"), ed(2, 3, "xyz")}},
		{"at the end of the first", "abcd", []api.Edit{ed(0, 1, "xyz")}, []api.Edit{ed(3, 3, "q")}, []api.Edit{ed(0, 1, "xyzq")}},
		{"at the beginning of the first", "abcd", []api.Edit{ed(2, 3, "xyz")}, []api.Edit{ed(0, 2, "q")}, []api.Edit{ed(0, 3, "qxyz")}},
		{"where something was taken away", "abc", []api.Edit{ed(1, 2, "")}, []api.Edit{ed(1, 1, "x")}, []api.Edit{ed(1, 2, "x")}},
		{"taken away again", "abc", []api.Edit{ed(1, 1, "x")}, []api.Edit{ed(1, 2, "")}, []api.Edit{ed(1, 1, "")}},
		{"one second touches two first", "abcdef", []api.Edit{ed(0, 1, "X"), ed(5, 6, "Y")}, []api.Edit{ed(1, 5, "-")}, []api.Edit{ed(0, 6, "X-Y")}},
		{"one first touches two second", "abcdef", []api.Edit{ed(1, 5, "WXYZ")}, []api.Edit{ed(0, 2, "-"), ed(4, 5, "")}, []api.Edit{ed(0, 5, "-XY")}},
		{"a chain", "abcdefgh", []api.Edit{ed(1, 2, "12"), ed(4, 5, "34")}, []api.Edit{ed(0, 2, "x"), ed(3, 6, "y"), ed(7, 9, "z")}, []api.Edit{ed(0, 7, "x2y4z")}},
		{"a chain, and one apart", "abcdefgh", []api.Edit{ed(1, 2, "12"), ed(4, 5, "34")}, []api.Edit{ed(0, 2, "x"), ed(3, 6, "y"), ed(8, 9, "z")}, []api.Edit{ed(0, 5, "x2y4"), ed(6, 7, "z")}},
		{"first ones that touch only one another", "abcd", []api.Edit{ed(0, 2, "x"), ed(2, 4, "yz")}, []api.Edit{ed(3, 3, "q")}, []api.Edit{ed(0, 2, "x"), ed(2, 4, "yzq")}},
		{"second ones that touch only one another", "abcd", []api.Edit{ed(0, 1, "xy")}, []api.Edit{ed(1, 3, "p"), ed(3, 4, "q")}, []api.Edit{ed(0, 2, "xp"), ed(2, 3, "q")}},
		{"between two first ones at one offset", "ab", []api.Edit{ed(1, 1, "x"), ed(1, 1, "y")}, []api.Edit{ed(2, 2, "-")}, []api.Edit{ed(1, 1, "x-y")}},
		{"an empty first one is touched", "abcd", []api.Edit{ed(2, 2, "")}, []api.Edit{ed(1, 2, "x")}, []api.Edit{ed(1, 2, "x")}},
		{"an empty second one touches", "abcd", []api.Edit{ed(1, 2, "x")}, []api.Edit{ed(2, 2, "")}, []api.Edit{ed(1, 2, "x")}},
		{"moved by two", "abcdefgh", []api.Edit{ed(0, 1, "xyz"), ed(2, 4, "")}, []api.Edit{ed(5, 5, "p"), ed(7, 8, "q")}, []api.Edit{ed(0, 1, "xyz"), ed(2, 4, ""), ed(5, 5, "p"), ed(7, 8, "q")}},
	} {
		first, second := slices.Clone(c.first), slices.Clone(c.second)
		if l, e := rope.Merge(c.text, c.first, c.second); !slices.Equal(l, c.want) || e != api.OK {
			t.Errorf("%s: %v, %d, not %v", c.name, l, e, c.want)
		}
		if !slices.Equal(first, c.first) || !slices.Equal(second, c.second) {
			t.Errorf("%s: the edits were changed", c.name)
		}
	}
}

// P1.3: the errors of first, then those of second, then the number of edits.
func TestMergeErrors(t *testing.T) {
	wrong := []api.Edit{ed(1, 0, "")}
	for _, c := range []struct {
		name          string
		text          string
		first, second []api.Edit
		want          api.Errno
	}{
		{"the string is too long", tooLong, nil, nil, api.ErrLimit},
		{"the first ones are too many", "ab", make([]api.Edit, api.MaxEdits+1), wrong, api.ErrLimit},
		{"the first ones are wrong", "ab", wrong, make([]api.Edit, api.MaxEdits+1), api.ErrArg},
		{"the first ones are too long", "ab", []api.Edit{ed(0, 0, full)}, wrong, api.ErrFull},
		{"the second ones are too many", "ab", nil, make([]api.Edit, api.MaxEdits+1), api.ErrLimit},
		{"the second ones are wrong", "ab", nil, wrong, api.ErrArg},
		{"the second ones are too long", "ab", nil, []api.Edit{ed(0, 0, full)}, api.ErrFull},
		{"the second ones are of the string between", "ab", []api.Edit{ed(2, 2, "cd")}, []api.Edit{ed(4, 4, "e")}, api.OK},
		{"the second ones are not of the old string", "ab", []api.Edit{ed(0, 2, "")}, []api.Edit{ed(2, 2, "e")}, api.ErrArg},
		{"longer only in between", full, []api.Edit{ed(0, 0, "a")}, []api.Edit{ed(0, 1, "")}, api.ErrFull},
		{"shorter in between", full, []api.Edit{ed(0, 2, "")}, []api.Edit{ed(0, 0, "xy")}, api.OK},
	} {
		if l, e := rope.Merge(c.text, c.first, c.second); e != c.want || e != api.OK && len(l) > 0 {
			t.Errorf("%s: %d edits, error %d, not %d", c.name, len(l), e, c.want)
		}
	}
}

// P1.3: as many edits as may be, and one more.
func TestMergeFull(t *testing.T) {
	var first, second []api.Edit
	for i := range 60 {
		first = append(first, ed(4*i, 4*i+1, "x"))
	}
	for i := range 41 {
		second = append(second, ed(4*i+2, 4*i+2, "y"))
	}
	text := full[:1000]
	if l, e := rope.Merge(text, first, second[:40]); len(l) != api.MaxEdits || e != api.OK {
		t.Errorf("%d edits, error %d", len(l), e)
	}
	if l, e := rope.Merge(text, first, second); len(l) > 0 || e != api.ErrFull {
		t.Errorf("%d edits, error %d", len(l), e)
	}
	second[40] = ed(4*40+1, 4*40+1, "y")
	if l, e := rope.Merge(text, first, second); len(l) != api.MaxEdits || e != api.OK {
		t.Errorf("one that touches: %d edits, error %d", len(l), e)
	}
}

// P1.3 and P1.8.
func TestOneAfterTheOther(t *testing.T) {
	r := rand.New(rand.NewSource(3))
	for range 40000 {
		text := randomText(r, 14)
		first := randomEdits(r, len(text), 4)
		between := mustApply(t, text, first)
		second := randomEdits(r, len(between), 4)
		merged, e := rope.Merge(text, first, second)
		if e != api.OK {
			t.Fatalf("Merge(%q, %v, %v): error %d", text, first, second, e)
		}
		if got, want := mustApply(t, text, merged), mustApply(t, between, second); got != want {
			t.Fatalf("Merge(%q, %v, %v) = %v, which makes %q, not %q", text, first, second, merged, got, want)
		}
		if want := modelMerge(text, first, second); !slices.Equal(merged, want) {
			t.Fatalf("Merge(%q, %v, %v) = %v, not %v", text, first, second, merged, want)
		}
		for _, lists := range [][2][]api.Edit{{first, nil}, {nil, first}} {
			if alone, e := rope.Merge(text, lists[0], lists[1]); e != api.OK || mustApply(t, text, alone) != between {
				t.Fatalf("Merge(%q, %v, %v) = %v, %d", text, lists[0], lists[1], alone, e)
			}
		}
	}
}

// Rule 4 of DOC.md: lists in results are new memory.
func TestNewMemory(t *testing.T) {
	edits := []api.Edit{ed(0, 1, "x"), ed(2, 2, "y")}
	kept := slices.Clone(edits)
	for _, lists := range [][2][]api.Edit{{edits, nil}, {nil, edits}} {
		merged, _ := rope.Merge("abc", lists[0], lists[1])
		clear(merged)
	}
	back, _ := rope.Invert("abc", edits)
	clear(back)
	r := mustNew(t, "abc")
	s := mustEdit(t, r, edits...)
	if !slices.Equal(edits, kept) {
		t.Errorf("the edits are %v", edits)
	}
	clear(edits)
	if s.Text() != "xbyc" {
		t.Errorf("the rope is %q", s.Text())
	}
}
