package reparse_test

import (
	"math/rand"
	"slices"
	"testing"

	"marginalia/api"
	"marginalia/reparse"
	"marginalia/rope"
	"marginalia/tree"
)

const sample = "// a list\nimport m;\ntype List[a] = End | More(a, List[a]);\n\ndef f(x, y: Int) = if !x then (1 + 2 * 3) == g(x)(y) else\n\tmatch x { A(-1, m.B) => fn() => #, _ => \"a\\n\\\"//\" };\nx y; def g( = 1\ndef h(: T)\n= 2 z\n; // end"

// P7.4: the tree is that of the new string, after many edits one after the other, each time of the tree that Reparse made.
func TestTheSame(t *testing.T) {
	r := rand.New(rand.NewSource(74))
	for range 40 {
		text := randomText(r, 8)
		n := parsed(t, text)
		for range 40 {
			edits := randomEdits(r, text, 3)
			n = reparsed(t, n, edits)
			text = modelApply(text, edits)
			if want := parsed(t, text); !tree.Same(n, want) {
				t.Fatalf("after %v %s is %s, not %s", edits, short(text), show(n), show(want))
			}
		}
	}
}

// P7.4: a string that is written byte by byte, taken away byte by byte from its beginning, and of which each byte is taken away and put back.
func TestByteByByte(t *testing.T) {
	n := parsed(t, "")
	for at := range len(sample) {
		n = reparsed(t, n, list(edit(at, at, sample[at:at+1])))
		if !tree.Same(n, parsed(t, sample[:at+1])) {
			t.Fatalf("%q is %s", sample[:at+1], show(n))
		}
	}
	for at := range len(sample) {
		without := reparsed(t, n, list(edit(at, at+1, "")))
		if !tree.Same(without, parsed(t, sample[:at]+sample[at+1:])) {
			t.Fatalf("without its byte at %d: %s", at, show(without))
		}
		if back := reparsed(t, without, list(edit(at, at, sample[at:at+1]))); !tree.Same(back, n) {
			t.Fatalf("with its byte at %d again: %s", at, show(back))
		}
	}
	for at := range len(sample) {
		n = reparsed(t, n, list(edit(0, 1, "")))
		if !tree.Same(n, parsed(t, sample[at+1:])) {
			t.Fatalf("%q is %s", sample[at+1:], show(n))
		}
	}
}

// P7.5: each kept part is a part of the new tree, in their order and where the edits leave it, and Match has as many pairs at least.
func TestKeptParts(t *testing.T) {
	held := 0
	someEdits(4000, func(_ *rand.Rand, text string, edits []api.Edit) {
		old := parsed(t, text)
		made := reparsed(t, old, edits)
		kept, _ := reparse.Kept(old, edits)
		olds, news := modelSpans(old), modelSpans(made)
		for _, i := range kept {
			from, _ := rope.Move(edits, olds[i].From, true)
			is := slices.IndexFunc(news, func(s api.Span) bool { return s.From == from })
			if is < 0 || !tree.Same(old.Kids[i], made.Kids[is]) {
				t.Errorf("the kept part %d of %s with %v is none of %s", i, short(text), edits, show(made))
			}
			held++
		}
		if pairs, e := reparse.Match(old, made); len(pairs) < len(kept) || e != api.OK {
			t.Errorf("of %s with %v %d parts are kept, and the same are %v, %d", short(text), edits, len(kept), pairs, e)
		}
	})
	if held < 4000 {
		t.Errorf("only %d parts are kept", held)
	}
}

// P7.6: one edit after the other is all at once, by Merge.
func TestOneAfterTheOther(t *testing.T) {
	held := 0
	someEdits(5000, func(r *rand.Rand, text string, first []api.Edit) {
		second := randomEdits(r, modelApply(text, first), 3)
		merged, e := rope.Merge(text, first, second)
		if e != api.OK {
			return
		}
		held++
		old := parsed(t, text)
		if one, other := reparsed(t, reparsed(t, old, first), second), reparsed(t, old, merged); !tree.Same(one, other) {
			t.Errorf("%s with %v and then %v: %s, and at once %s", short(text), first, second, show(one), show(other))
		}
	})
	if held < 4000 {
		t.Errorf("only %d pairs could be merged", held)
	}
}

// P7.6: edits that are done one by one, from the last one to the first one, are those that are done at once.
func TestOneByOne(t *testing.T) {
	someEdits(3000, func(_ *rand.Rand, text string, edits []api.Edit) {
		old := parsed(t, text)
		n := old
		for _, e := range slices.Backward(edits) {
			n = reparsed(t, n, list(e))
		}
		if once := reparsed(t, old, edits); !tree.Same(n, once) {
			t.Errorf("%s with %v: one by one %s, at once %s", short(text), edits, show(n), show(once))
		}
	})
}

// P7.7: the inverse edits lead back to the old tree.
func TestBack(t *testing.T) {
	someEdits(5000, func(_ *rand.Rand, text string, edits []api.Edit) {
		old := parsed(t, text)
		back, e := rope.Invert(text, edits)
		if e != api.OK {
			t.Fatalf("Invert of %s and %v: %d", short(text), edits, e)
		}
		if n := reparsed(t, reparsed(t, old, edits), back); !tree.Same(n, old) {
			t.Errorf("%s with %v and back is %s, not %s", short(text), edits, show(n), show(old))
		}
	})
}
