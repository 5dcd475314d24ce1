package parse_test

import (
	"strconv"
	"testing"

	"marginalia/api"
	"marginalia/parse"
	"marginalia/token"
)

const sample = "import m; x; // r\ntype T[a] = A | B(m.T[a], (Int) -> a);\ndef f(x, y: Int) = if !x then (1 + 2 * 3) == g(x)(y, ) else match x { A(-1, _) => fn() => #, _ => 2 "

// marks overwrites all lists of Kids, and what is behind them, each place with another mark, and holds that none has overwritten another one.
func marks(t *testing.T, what string, n api.Node) {
	t.Helper()
	var lists [][]api.Node
	var collect func(n api.Node)
	collect = func(n api.Node) {
		for _, kid := range n.Kids {
			collect(kid)
		}
		lists = append(lists, n.Kids[:cap(n.Kids)])
	}
	collect(n)
	mark := func(list, index int) string { return strconv.Itoa(list) + " " + strconv.Itoa(index) }
	for i, l := range lists {
		for k := range l {
			l[k] = leaf(api.TkBad, mark(i, k))
		}
	}
	for i, l := range lists {
		for k := range l {
			if l[k].Token.Text != mark(i, k) {
				t.Fatalf("%s: two lists share memory", what)
			}
		}
	}
}

// Rule 4: results are new memory, and arguments stay as they are.
func TestMemory(t *testing.T) {
	want, wantNotes := modelParse(sample)
	n, notes := parsed(t, sample)
	marks(t, "a tree of Parse", n)
	for i := range notes {
		for k := range notes[i].Args {
			notes[i].Args[k] = "overwritten"
		}
		_ = append(notes[i].Args, "overwritten")
		notes[i] = api.Note{}
	}
	n, notes = parsed(t, sample)
	if show(n) != show(want) || !sameNotes(notes, wantNotes) {
		t.Errorf("Parse again: %s, %s", show(n), showNotes(notes))
	}
	tokens, _ := token.Lex(sample)
	made, _ := parse.Tree(tokens)
	marks(t, "a tree of Tree", made)
	if made, _ = parse.Tree(tokens); show(made) != show(want) {
		t.Errorf("Tree again: %s", show(made))
	}
	clear(tokens)
	if show(made) != show(want) {
		t.Error("a tree of Tree shares memory with its argument")
	}
	got, _ := parse.Notes(n)
	clear(got)
	items, _ := parse.Items(n)
	clear(items)
	if again, e := parse.Notes(n); !sameNotes(again, wantNotes) || e != api.OK {
		t.Errorf("Notes again: %s, %d", showNotes(again), e)
	}
	if again, e := parse.Items(n); len(again) != 3 || again[0] != (api.Span{From: 0, To: 9}) || e != api.OK {
		t.Errorf("Items again: %v, %d", again, e)
	}
	if show(n) != show(want) {
		t.Errorf("the tree that was handed in is %s", show(n))
	}
}

// P6.3: Items by example.
func TestItems(t *testing.T) {
	for _, c := range []struct {
		text string
		want string
	}{
		{"", ""},
		{" // r\n", ""},
		{"x; y", ""},
		{" import a ; // r\n", "1-11 "},
		{"import a;def f()=1;x type T=A|B ; // r", "0-9 9-19 21-33 "},
		{"def // r\n import \n", "0-3 10-16 "},
		{"def f( // r\n) = // s\n 1 // t\n", "0-23 "},
		{"x; def f() = 1", "3-14 "},
	} {
		got := ""
		for _, s := range itemsOf(t, c.text) {
			got += strconv.Itoa(s.From) + "-" + strconv.Itoa(s.To) + " "
		}
		if got != c.want {
			t.Errorf("Items of the tree of %s: %s, not %s", short(c.text), got, c.want)
		}
	}
}
