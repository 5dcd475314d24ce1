package relex_test

import (
	"math/rand"
	"slices"
	"strings"
	"testing"

	"marginalia/api"
	"marginalia/rope"
)

// P4.4: the tokens are those of the new string, after many edits one after the other, each time of the tokens that Relex made.
func TestTheSame(t *testing.T) {
	r := rand.New(rand.NewSource(44))
	for range 60 {
		text := randomText(r, 60)
		tokens := lex(t, text)
		for range 40 {
			edits := randomEdits(r, len(text), 3)
			tokens = relexed(t, tokens, edits)
			text, _ = modelApply(text, edits)
			if want := lex(t, text); !slices.Equal(tokens, want) {
				t.Fatalf("after %v %q is %s", edits, text, show(tokens))
			}
		}
	}
}

// P4.4: a string that is written byte by byte, and taken away byte by byte from its beginning.
func TestByteByByte(t *testing.T) {
	text := "// a list\ntype List[a] = End | More(a, List[a]);\n\ndef f(x) = \"a\\n\\\"//\\\\\"; # &&&\n\tdef g() = x -> y => 1 == 2 || \"open\n// end"
	var tokens []api.Token
	for at := range len(text) {
		tokens = relexed(t, tokens, list(edit(at, at, text[at:at+1])))
		if !slices.Equal(tokens, lex(t, text[:at+1])) {
			t.Fatalf("%q is %s", text[:at+1], show(tokens))
		}
	}
	for at := range len(text) {
		tokens = relexed(t, tokens, list(edit(0, 1, "")))
		if !slices.Equal(tokens, lex(t, text[at+1:])) {
			t.Fatalf("%q is %s", text[at+1:], show(tokens))
		}
	}
}

// P4.5: one edit after the other is all at once, by Merge.
func TestOneAfterTheOther(t *testing.T) {
	held := 0
	someEdits(10000, func(r *rand.Rand, text string, first []api.Edit) {
		between, _ := modelApply(text, first)
		second := randomEdits(r, len(between), 3)
		merged, e := rope.Merge(text, first, second)
		if e != api.OK {
			return
		}
		held++
		old := lex(t, text)
		if one, other := relexed(t, relexed(t, old, first), second), relexed(t, old, merged); !slices.Equal(one, other) {
			t.Errorf("%q with %v and then %v: %s, and at once %s", text, first, second, show(one), show(other))
		}
	})
	if held < 5000 {
		t.Errorf("only %d pairs could be merged", held)
	}
}

// P4.5: edits that are done one by one, from the last one to the first one, are those that are done at once.
func TestOneByOne(t *testing.T) {
	someEdits(5000, func(_ *rand.Rand, text string, edits []api.Edit) {
		old := lex(t, text)
		tokens := old
		for _, e := range slices.Backward(edits) {
			tokens = relexed(t, tokens, list(e))
		}
		if once := relexed(t, old, edits); !slices.Equal(tokens, once) {
			t.Errorf("%q with %v: one by one %s, at once %s", text, edits, show(tokens), show(once))
		}
	})
}

// P4.6: the inverse edits bring the old tokens back.
func TestBack(t *testing.T) {
	hold := func(text string, edits []api.Edit) {
		t.Helper()
		inverse, e := rope.Invert(text, edits)
		if e != api.OK {
			t.Fatalf("Invert(%q, %v): %d", text, edits, e)
		}
		old := lex(t, text)
		if back := relexed(t, relexed(t, old, edits), inverse); !slices.Equal(back, old) {
			t.Errorf("%q with %v and back: %s", text, edits, show(back))
		}
	}
	someEdits(10000, func(_ *rand.Rand, text string, edits []api.Edit) { hold(text, edits) })
	all(strings.Split("\n \"a/", ""), 3, func(text string) {
		eachEdit(text, list("", "\n", "\"", "/"), func(e api.Edit) { hold(text, list(e)) })
	})
}
