package view_test

import (
	"fmt"
	"strings"
	"testing"

	"marginalia/api"
	"marginalia/view"
)

// numbered holds the notes of strings against what is written out by hand.
func numbered(t *testing.T, cases [][2]string) {
	t.Helper()
	for _, c := range cases {
		if notes, e := view.Numbers(parsed(t, c[0])); showNotes(notes) != c[1] || e != api.OK {
			t.Errorf("Numbers of %s: %s, %d, not %s", short(c[0]), showNotes(notes), e, c[1])
		}
		agrees(t, c[0])
	}
}

// P8.3: numbers that are too large, at their leaves.
func TestNumbers(t *testing.T) {
	const most, more, least = "9223372036854775807", "9223372036854775808", "9223372036854775809"
	numbered(t, [][2]string{
		{"", ""},
		{"def f() = 0;", ""},
		{"def f() = " + most + ";", ""},
		{"def f() = 000000000000000000000000" + most + ";", ""},
		{"def f() = " + more + ";", "13@10-29"},
		{"def f() = 000" + more + ";", "13@10-32"},
		{"def f() = " + strings.Repeat("9", 10000) + ";", "13@10-10010"},
		{"def f() = 18446744073709551616;", "13@10-30"},
		{"def f() = 36893488147419103232;", "13@10-30"},
		{"def f() = -" + most + ";", ""},
		{"def f() = -" + more + ";", "13@11-30"},
		{"def f() = - " + more + " - " + most + " - " + more + ";", "13@12-31; 13@56-75"},
		{"def f() = ( ( " + more + " ) );", "13@14-33"},
		{"def f() = f(" + more + ", g(" + more + "));", "13@12-31; 13@35-54"},
		{"def f() = if " + more + " then " + most + " else " + more + "; def g() = " + more, "13@13-32; 13@63-82; 13@94-113"},
		{"def f() = match " + more + " { " + more + " => " + more + " }", "13@16-35; 13@38-57; 13@61-80"},
		{"def f() = match x { " + most + " => 1 };", ""},
		{"def f() = match x { " + more + " => 1 };", "13@20-39"},
		{"def f() = match x { -" + most + " => 1 };", ""},
		{"def f() = match x { - // r\n " + more + " => 1 };", ""},
		{"def f() = match x { -00" + more + " => 1 };", ""},
		{"def f() = match x { - " + least + " => 1 };", "13@22-41"},
		{"def f() = match x { - => 1 };", ""},
		{"def f() = match x { A(" + more + ", B(_, -" + least + ")) => 1 };", "13@22-41; 13@49-68"},
		{"def f() = \"" + more + "\"; // " + more, ""},
		{"def f(x: " + more + ") = 1;", "13@9-28"},
		{more + "; " + more, ""},
		{"def f() = 1 " + more + "; def g() = " + more + ";", "13@43-62"},
		{"import " + more + "; type T = " + more + ";", ""},
	})
}

// many writes a thing several times, with commas between.
func many(thing string, count int) string {
	return strings.TrimSuffix(strings.Repeat(thing+",", count), ",")
}

// P8.3: lists that are too long, each at what has it; one of MaxArgs is not.
func TestLists(t *testing.T) {
	const nowhere = -1
	for _, c := range []struct {
		begin, thing, end string
		from              int // of the span
		to                int // of the span, from the list's end on; nowhere, if it is that of a variant's name
	}{
		{"type T[", "a", "] = A;", 0, 6},
		{"type T[", "", " ] = A;", 0, 7},
		{" type T[", "a", "", 1, 0},
		{"type T = A(", "a", ");", 9, nowhere},
		{"type T = A(", " ", ");", 9, nowhere},
		{"type T = X | A(", "T[a]", ") | B(a);", 13, nowhere},
		{"def f(", "x", ") = 1;", 0, 6},
		{"def f(", "x: T", ") = 1; // r", 0, 6},
		{"def f(x,", "", " ) = 1;", 0, 7},
		{"def f() = fn(", "x", ") => 1;", 10, 6},
		{"def f() = (fn(", "x", ") => 1 ) ;", 10, 8},
		{"def f() = f(", "x", ");", 10, 1},
		{"def f() = f(", " ", ");", 10, 1},
		{"def f() = ( f(", "f(x)", ") );", 10, 3},
		{"def f() = f(1)(", "x", ")(2);", 10, 1},
		{"def f() = m.f (", "x", ") + 1;", 10, 1},
		{"def f() = -f(", "x", ");", 11, 1},
		{"def f() = match x { A(", "a", ") => 1 };", 20, 1},
		{"def f() = match x { B, C(-1, m.A(", "_", ")) => 1 };", 29, 1},
		{"def f(): T[", "a", "] = 1;", 9, 1},
		{"def f(): m.T[", " ", "] = 1;", 9, 1},
		{"def f(x: T[", "T[a]", "]) = 1;", 9, 1},
		{"def f(x: (", "a", ") -> b) = 1;", 9, 6},
		{"def f(x: (", "a", ") -> ) = 1;", 9, 4},
		{"def f() = fn(x: U[a, T[", "a", "]]) => 1;", 21, 1},
		{"type T = A(U[", "a", "]);", 11, 1},
	} {
		for _, count := range []int{api.MaxArgs - 2, api.MaxArgs - 1, api.MaxArgs, api.MaxArgs + 1, api.MaxArgs + 20} {
			list := many(c.thing, count)
			text := c.begin + list + c.end
			found := count
			if strings.HasPrefix(c.begin, "def f(x,") {
				found++
			}
			want := ""
			if found > api.MaxArgs {
				to := len(c.begin) + len(list) + c.to
				if c.to == nowhere {
					to = c.from + 1
				}
				want = fmt.Sprintf("10@%d-%d,,12,%d", c.from, to, found)
			}
			got, e := view.Numbers(parsed(t, text))
			if showNotes(got) != want || e != api.OK {
				t.Errorf("Numbers of %q: %s, %d, not %s", text, showNotes(got), e, want)
			}
			agrees(t, text)
		}
	}
}

// P8.3: lists that are none of those that the chapter counts may be as long as they want.
func TestLongLists(t *testing.T) {
	numbered(t, [][2]string{
		{strings.Repeat("import a; ", 20), ""},
		{"type T = A" + strings.Repeat(" | A", 20) + ";", ""},
		{"def f() = 1" + strings.Repeat(" + 1", 20) + ";", ""},
		{"def f() = f" + strings.Repeat("(1)", 20) + ";", ""},
		{"def f() = match x { " + many("_ => 1", 20) + " };", ""},
		{"def f(" + many("x", 12) + ") = f(" + many("x", 12) + ");", ""},
		{"x " + many("a", 20) + ";", ""},
		{"def f() = 1 (" + many("x", 12) + ");", ""},
	})
}

// P8.3: notes come in rising order of From, then To, then Code, whatever was read first.
func TestOrder(t *testing.T) {
	const large = "9999999999999999999"
	args := many("x", 13)
	numbered(t, [][2]string{
		{"def f(" + args + ") = f(" + args + ");", "10@0-64,,12,13; 10@35-63,,12,13"},
		{"def f() = f(" + args + ")(" + args + ");", "10@10-38,,12,13; 10@10-65,,12,13"},
		{"def f() = (f(" + args + "))(" + args + ");", "10@10-40,,12,13; 10@10-67,,12,13"},
		{"def f() = " + large + " + f(" + large + "," + args + ") + " + large + ";", "13@10-29; 10@32-80,,12,14; 13@34-53; 13@83-102"},
		{"def f() = 1; type T = A(" + args + "); def g(" + args + ") = " + large + ";", "10@22-23,,12,13; 10@52-107,,12,13; 13@87-106"},
		{"type T = (" + args + ") | A | (" + args + ");", "10@8-8,,12,13; 10@42-42,,12,13"},
		{"type [" + args + "] = (T[" + args + "], " + many("T", 12) + ");", "10@0-91,,12,13; 10@34-34,,12,13; 10@36-64,,12,13"},
	})
}

// P8.3: the notes of one tree do not hang on their order in memory: Args are each note's own.
func TestNotesApart(t *testing.T) {
	n := parsed(t, "def f() = f("+many("f("+many("1", 13)+")", 14)+");")
	notes, _ := view.Numbers(n)
	if len(notes) != 15 {
		t.Fatalf("%s", showNotes(notes))
	}
	want := showNotes(notes[1:])
	clear(notes[0].Args)
	_ = append(notes[0].Args, "overwritten")
	if got := showNotes(notes[1:]); got != want {
		t.Errorf("%s, not %s", got, want)
	}
}
