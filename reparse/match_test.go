package reparse_test

import (
	"math/rand"
	"slices"
	"strconv"
	"strings"
	"testing"

	"marginalia/api"
	"marginalia/reparse"
	"marginalia/tree"
)

// P7.3: by example. Of each string the kids of the root are numbered, blanks, too.
func TestMatch(t *testing.T) {
	// Whether a type is missed in the last bracket hangs on the next token, which is too deep to be taken.
	deep := "type T = A(" + strings.Repeat("T[", 99) + "("
	for _, c := range []struct {
		what     string
		old, new string
		want     [][2]int
	}{
		{"two empty strings", "", "", nil},
		{"trivia alone", " // r\n", " // r\n", nil},
		{"nothing in the one", "", ";", nil},
		{"nothing in the other", ";", " ", nil},
		{"nothing that is the same", "x; y;", "z; ;", nil},
		{"one part", ";", ";", list([2]int{0, 0})},
		{"indexes are those of the root's kids", " x; y; z;", "// r\n\ny;z;", list([2]int{3, 2}, [2]int{5, 3})},
		{"trivia between parts has no say", "x;\ny;", "x; // r\ny;", list([2]int{0, 0}, [2]int{2, 4})},
		{"trivia in parts has", "x ;y;", "x;y;", list([2]int{1, 1})},
		{"the first one of several in the old one", ";;;", "x;;", list([2]int{0, 1})},
		{"the first one of several in the new one", "x;;", ";;;", list([2]int{1, 0})},
		{"two that cross: the first one in the old one", "x;y;", "y;x;", list([2]int{0, 1})},
		{"three that turn", "x;y;z;", "y;z;x;", list([2]int{1, 0}, [2]int{2, 1})},
		{"first indexes before second ones", "x;y;x;", "y;x;", list([2]int{1, 0}, [2]int{2, 1})},
		{"first indexes decide, the second ones after", "x;y;", "y;x;y;x;", list([2]int{0, 1}, [2]int{1, 2})},
		{"second indexes as low as can be", "x;z;", "x;x;z;z;", list([2]int{0, 0}, [2]int{1, 2})},
		{"the last one in the new one, to be longer", "x;y;z;", "z;x;y;z;y;", list([2]int{0, 1}, [2]int{1, 2}, [2]int{2, 3})},
		{"kinds of items", "import a;type T=A;def f()=1;", "def f()=1;type T=A;import a;", list([2]int{0, 2})},
		{"items that differ deep in them", "def f() = (1 + (2));", "def f() = (1 + (3));", nil},
		{"items with the same string", "def f() = (1", "def f() = (1\nimport a;", list([2]int{0, 0})},
		{"items with the same string, and different trees", deep, deep + "x", nil},
		{"items with the same string, and different trees, in one", deep + "x\n" + deep, deep, list([2]int{3, 0})},
	} {
		old, made := parsed(t, c.old), parsed(t, c.new)
		if want := modelMatch(old, made); !slices.Equal(want, c.want) {
			t.Errorf("the model of %s: %v, not %v", c.what, want, c.want)
		}
		if got, e := reparse.Match(old, made); !slices.Equal(got, c.want) || e != api.OK {
			t.Errorf("%s: %v, %d, not %v", c.what, got, e, c.want)
		}
	}
}

// P7.3: all short lists of three different parts, and random ones of five, against the model.
func TestMatchAgainstModel(t *testing.T) {
	hold := func(old, made api.Node) {
		if got, e := reparse.Match(old, made); !slices.Equal(got, modelMatch(old, made)) || e != api.OK {
			t.Errorf("Match of %s and %s: %v, %d, not %v", show(old), show(made), got, e, modelMatch(old, made))
		}
	}
	var trees []api.Node
	all(list(";", "x;", "y;"), 4, func(s string) { trees = append(trees, parsed(t, s)) })
	for _, old := range trees {
		for _, made := range trees {
			hold(old, made)
		}
	}
	r := rand.New(rand.NewSource(73))
	parts := list("; ", "x;", "y;\n", "import a; ", "import b;")
	random := func() api.Node {
		var s strings.Builder
		for range r.Intn(9) {
			s.WriteString(oneOf(r, parts))
		}
		return parsed(t, s.String())
	}
	for range 500 {
		hold(random(), random())
	}
}

// tableMatch reads the first one of the longest lists off a table of how many pairs there can be from each place on.
func tableMatch(old, made api.Node) [][2]int {
	olds, news := modelParts(old), modelParts(made)
	most := make([][]int, len(olds)+1)
	for i := range most {
		most[i] = make([]int, len(news)+1)
	}
	same := func(i, k int) bool { return tree.Same(old.Kids[olds[i]], made.Kids[news[k]]) }
	for i := len(olds) - 1; i >= 0; i-- {
		for k := len(news) - 1; k >= 0; k-- {
			most[i][k] = max(most[i+1][k], most[i][k+1])
			if same(i, k) {
				most[i][k] = most[i+1][k+1] + 1
			}
		}
	}
	var pairs [][2]int
	begin := 0
	for i := range olds {
		for k := begin; k < len(news); k++ {
			if same(i, k) && most[i+1][k+1]+1 == most[i][begin] {
				pairs = append(pairs, [2]int{olds[i], news[k]})
				begin = k + 1
				break
			}
		}
	}
	return pairs
}

// P7.3: lists of hundreds of parts, of few sorts and of many, against a table.
func TestMatchOfMany(t *testing.T) {
	r := rand.New(rand.NewSource(733))
	for _, sorts := range list(1, 2, 3, 10, 100) {
		for _, size := range list(62, 63, 64, 65, 127, 128, 129, 300) {
			random := func(size int) api.Node {
				var s strings.Builder
				for range size {
					s.WriteString("x" + strconv.Itoa(r.Intn(sorts)) + ";")
				}
				return parsed(t, s.String())
			}
			old, made := random(100+r.Intn(100)), random(size)
			if got, e := reparse.Match(old, made); !slices.Equal(got, tableMatch(old, made)) || e != api.OK {
				t.Errorf("Match of parts of %d sorts, %d in the new tree: %v, %d, not %v", sorts, size, got, e, tableMatch(old, made))
			}
		}
	}
}

// P7.3: trees of strings as long as they may be.
func TestMatchLimits(t *testing.T) {
	full := parsed(t, strings.Repeat(";", api.MaxText))
	var want [][2]int
	for i := range api.MaxText {
		want = append(want, [2]int{i, i})
	}
	if got, e := reparse.Match(full, full); !slices.Equal(got, want) || e != api.OK {
		t.Errorf("a full tree and itself: %d pairs, %d", len(got), e)
	}
	others := parsed(t, strings.Repeat("x;;y;;;", api.MaxText/7))
	want = nil
	for i, part := range others.Kids {
		if len(part.Kids) == 1 {
			want = append(want, [2]int{len(want), i})
		}
	}
	if got, e := reparse.Match(full, others); !slices.Equal(got, want) || e != api.OK {
		t.Errorf("two full trees: %d pairs, %d, not %d", len(got), e, len(want))
	}
	if got, e := reparse.Match(parsed(t, strings.Repeat("x;", api.MaxText/2)), full); len(got) > 0 || e != api.OK {
		t.Errorf("two full trees with nothing in common: %d pairs, %d", len(got), e)
	}
}
