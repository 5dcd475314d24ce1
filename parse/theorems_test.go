package parse_test

import (
	"math/rand"
	"slices"
	"strings"
	"testing"

	"marginalia/api"
	"marginalia/parse"
	"marginalia/token"
	"marginalia/tree"
)

// anyStrings calls visit with sources, with messes, and with strings of bytes of all sorts.
func anyStrings(visit func(text string)) {
	hold := func(_ *rand.Rand, text string) { visit(text) }
	someSources(1500, hold)
	someMess(1500, hold)
	someBytes(1500, hold)
}

// P6.4: the string of the tree is the string, and its leaves are the tokens.
func TestLossless(t *testing.T) {
	anyStrings(func(text string) {
		n, _ := parsed(t, text)
		if got, e := tree.Text(n); got != text || e != api.OK {
			t.Errorf("the string of the tree of %s: %q, %d", short(text), got, e)
		}
		tokens, _ := token.Lex(text)
		if got, e := tree.Leaves(n); !slices.Equal(got, tokens) || e != api.OK {
			t.Errorf("the leaves of the tree of %s: %v, %d", short(text), got, e)
		}
	})
}

// moved returns spans moved by a number of bytes.
func moved(spans []api.Span, by int) []api.Span {
	var all []api.Span
	for _, s := range spans {
		all = append(all, api.Span{From: s.From + by, To: s.To + by})
	}
	return all
}

func itemsOf(t *testing.T, text string) []api.Span {
	t.Helper()
	n, _ := parsed(t, text)
	items, e := parse.Items(n)
	if e != api.OK {
		t.Fatalf("Items of the tree of %s: %d", short(text), e)
	}
	return items
}

// P6.5: after a string that is good come the items and the notes of the second one.
func TestOneAfterTheOther(t *testing.T) {
	r := rand.New(rand.NewSource(65))
	for _, first := range []string{"", " ", "// r", "import a; // r", "def f() = 1;", spaced(r, someItems(r, 1)), spaced(r, someItems(r, 3)) + "//"} {
		if !parse.Good(first) {
			t.Fatalf("%s is not good", short(first))
		}
		someSources(250, func(_ *rand.Rand, second string) {
			begins := strings.HasPrefix(second, "import") || strings.HasPrefix(second, "type") || strings.HasPrefix(second, "def")
			if !begins {
				return
			}
			by := len(first) + 1
			whole := first + "\n" + second
			if got, want := itemsOf(t, whole), append(itemsOf(t, first), moved(itemsOf(t, second), by)...); !slices.Equal(got, want) {
				t.Errorf("Items of %s after %s: %v, not %v", short(second), short(first), got, want)
			}
			_, want := parsed(t, second)
			for i := range want {
				want[i].Span.From += by
				want[i].Span.To += by
			}
			if _, got := parsed(t, whole); !sameNotes(got, want) {
				t.Errorf("the notes of %s after %s: %s, not %s", short(second), short(first), showNotes(got), showNotes(want))
			}
		})
	}
}

// P6.6: there is something missing, something wrong or something bad just if there are notes.
func TestMissing(t *testing.T) {
	good := 0
	anyStrings(func(text string) {
		n, notes := parsed(t, text)
		missing, _ := tree.All(n, api.NdMissing)
		wrong, _ := tree.All(n, api.NdError)
		tokens, _ := token.Lex(text)
		isBad := slices.ContainsFunc(tokens, func(k api.Token) bool { return k.Kind == api.TkBad })
		if len(notes) == 0 {
			good++
		}
		if (len(missing) > 0 || len(wrong) > 0 || isBad) != (len(notes) > 0) {
			t.Errorf("%s: missing are %v, wrong %v, the notes %s", short(text), missing, wrong, showNotes(notes))
		}
	})
	if good < 100 || good > 1500 {
		t.Errorf("%d of 4500 are good", good)
	}
}

// P6.7: whatever stands in an item, those that follow it have the trees that they have alone, and the notes of these are the same.
func TestBrokenItems(t *testing.T) {
	r := rand.New(rand.NewSource(67))
	hold := func(before, item string) {
		t.Helper()
		alone, _ := parsed(t, item)
		whole, _ := parsed(t, before+"\n"+item)
		many := len(alone.Kids)
		if len(whole.Kids) < many || !tree.Same(node(api.NdFile, whole.Kids[len(whole.Kids)-many:]...), alone) {
			t.Errorf("%s after %s is\n%s", short(item), short(before), show(whole))
		}
	}
	last := func() string {
		item := someItems(r, 1)
		if r.Intn(2) == 0 {
			item = append(item[:1], broken(r, item[1:])...)
		}
		return spaced(r, item)
	}
	someSources(700, func(_ *rand.Rand, text string) { hold(text, last()) })
	someMess(700, func(_ *rand.Rand, text string) {
		hold(text, last())
		hold("def "+text, last())
		hold("def f() = match "+text, last())
	})
	text := "def f(a: T[(b) -> m.C]) = let x = if a then fn(y) => -1 else 2 in match x { A(-1, m.B) => (f)(x, 2), _ => 3 };"
	for i := range len(text) {
		hold(text[:i], "def g() = 1;")
	}
}

// P6.3: what the language's grammar lets be written is good.
func TestRightSources(t *testing.T) {
	r := rand.New(rand.NewSource(63))
	for range 800 {
		parts := someItems(r, 1+r.Intn(3))
		text := spaced(r, parts)
		if _, notes := parsed(t, text); len(notes) > 0 || !parse.Good(text) {
			t.Errorf("the notes of %s: %s", short(text), showNotes(notes))
		}
		items := itemsOf(t, text)
		count := 0
		for _, part := range parts {
			if part == "import" || part == "type" || part == "def" {
				count++
			}
		}
		if len(items) != count {
			t.Errorf("Items of %s: %v", short(text), items)
		}
	}
}
