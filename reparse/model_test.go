package reparse_test

import (
	"cmp"
	"fmt"
	"math/rand"
	"slices"
	"strconv"
	"strings"
	"testing"

	"marginalia/api"
	"marginalia/parse"
	"marginalia/reparse"
	"marginalia/token"
	"marginalia/tree"
)

// The models say again, in the plainest way, what the chapter says: the tests hold the package against them.

// modelApply returns the string after edits.
func modelApply(text string, edits []api.Edit) string {
	var changed strings.Builder
	at := 0
	for _, e := range edits {
		changed.WriteString(text[at:e.From] + e.New)
		at = e.To
	}
	return changed.String() + text[at:]
}

// modelParts returns the indexes of the kids of a root that are no trivia.
func modelParts(n api.Node) []int {
	var parts []int
	for i, kid := range n.Kids {
		if kid.Kind != api.NdToken {
			parts = append(parts, i)
		}
	}
	return parts
}

// modelSpans returns the spans of the kids of a root.
func modelSpans(n api.Node) []api.Span {
	var spans []api.Span
	end := 0
	for _, kid := range n.Kids {
		width, _ := tree.Width(kid)
		spans = append(spans, api.Span{From: end, To: end + width})
		end += width
	}
	return spans
}

// modelKept goes by the strings before and after each part, of which it finds the tokens.
func modelKept(n api.Node, edits []api.Edit) []int {
	text, _ := tree.Text(n)
	spans := modelSpans(n)
	isFresh := map[int]bool{}
	var kept []int
	before := -1
	for _, i := range modelParts(n) {
		from := strings.LastIndex(text[:spans[i].From], "\n") + 1
		if n.Kids[i].Kind == api.NdError {
			from = 0
			if ends := solidOf(text[:spans[i].From]); len(ends) > 0 {
				from = strings.LastIndex(text[:ends[len(ends)-1].To], "\n") + 1
			}
		}
		to := len(text)
		if after := solidOf(text[spans[i].To:]); len(after) > 1 {
			to = spans[i].To + after[1].From
		}
		for offset := from; offset <= to; offset++ {
			for _, e := range edits {
				if e.From <= offset && offset <= e.To {
					isFresh[i] = true
				}
			}
		}
		if n.Kids[i].Kind == api.NdError && before >= 0 {
			s := spans[before]
			if isFresh[before] && !strings.HasSuffix(text[s.From:s.To], ";") {
				isFresh[i] = true
			}
		}
		if !isFresh[i] {
			kept = append(kept, i)
		}
		before = i
	}
	return kept
}

// solidOf returns the spans of the solid tokens of a string.
func solidOf(text string) []api.Span {
	tokens, _ := token.Lex(text)
	var spans []api.Span
	end := 0
	for _, t := range tokens {
		begin := end
		end += len(t.Text)
		if t.Kind != api.TkBlank && t.Kind != api.TkRemark {
			spans = append(spans, api.Span{From: begin, To: end})
		}
	}
	return spans
}

// modelMatch tries all lists of pairs.
func modelMatch(old, made api.Node) [][2]int {
	var best [][2]int
	var try func(pairs [][2]int, olds, news []int)
	try = func(pairs [][2]int, olds, news []int) {
		if isBetter(pairs, best) {
			best = slices.Clone(pairs)
		}
		for i, a := range olds {
			for k, b := range news {
				if tree.Same(old.Kids[a], made.Kids[b]) {
					try(append(pairs, [2]int{a, b}), olds[i+1:], news[k+1:])
				}
			}
		}
	}
	try(nil, modelParts(old), modelParts(made))
	return best
}

// isBetter reports whether one list of pairs comes before another one.
func isBetter(a, b [][2]int) bool {
	side := func(pairs [][2]int, i int) []int {
		var all []int
		for _, p := range pairs {
			all = append(all, p[i])
		}
		return all
	}
	return cmp.Or(len(b)-len(a), slices.Compare(side(a, 0), side(b, 0)), slices.Compare(side(a, 1), side(b, 1))) < 0
}

// edit writes an edit.
func edit(from, to int, s string) api.Edit { return api.Edit{From: from, To: to, New: s} }

// list writes a list of anything.
func list[T any](all ...T) []T { return all }

func node(kind int, kids ...api.Node) api.Node { return api.Node{Kind: kind, Kids: kids} }

func leaf(kind int, text string) api.Node {
	return api.Node{Kind: api.NdToken, Token: api.Token{Kind: kind, Text: text}}
}

// show writes a Node: leaves by their strings, other ones by the numbers of their kinds.
func show(n api.Node) string {
	if n.Kind == api.NdToken {
		return strconv.Quote(n.Token.Text)
	}
	var all []string
	for _, kid := range n.Kids {
		all = append(all, show(kid))
	}
	return strconv.Itoa(n.Kind) + "[" + strings.Join(all, " ") + "]"
}

// short writes a string that may be long.
func short(s string) string {
	if len(s) > 300 {
		return fmt.Sprintf("%q and %d bytes more", s[:300], len(s)-300)
	}
	return strconv.Quote(s)
}

// parsed returns the tree of a string that is not too long.
func parsed(t *testing.T, text string) api.Node {
	t.Helper()
	n, _, e := parse.Parse(text)
	if e != api.OK {
		t.Fatalf("Parse(%s): %d", short(text), e)
	}
	return n
}

// reparsed returns the tree that Reparse makes, when it is to be without an error.
func reparsed(t *testing.T, old api.Node, edits []api.Edit) api.Node {
	t.Helper()
	n, _, e := reparse.Reparse(old, edits)
	if e != api.OK {
		t.Fatalf("Reparse of %.300s with %v: %d", show(old), edits, e)
	}
	return n
}

// agrees holds all that the package says of a string and its edits against the models.
func agrees(t *testing.T, text string, edits ...api.Edit) {
	t.Helper()
	old := parsed(t, text)
	kept, e := reparse.Kept(old, edits)
	if want := modelKept(old, edits); !slices.Equal(kept, want) || e != api.OK {
		t.Errorf("Kept of %s with %v: %v, %d, not %v", short(text), edits, kept, e, want)
	}
	want := parsed(t, modelApply(text, edits))
	made, taken, e := reparse.Reparse(old, edits)
	if !tree.Same(made, want) || e != api.OK {
		t.Errorf("Reparse of %s with %v is %d and\n%s, not\n%s", short(text), edits, e, show(made), show(want))
	}
	pairs, e := reparse.Match(old, want)
	if taken < len(kept) || taken > len(pairs) || e != api.OK {
		t.Errorf("of %s with %v %d parts are taken over, %v are kept, and these are the same: %v", short(text), edits, taken, kept, pairs)
	}
}

// all calls visit with all strings of at most most parts.
func all(parts []string, most int, visit func(s string)) {
	var add func(s string, left int)
	add = func(s string, left int) {
		visit(s)
		if left == 0 {
			return
		}
		for _, p := range parts {
			add(s+p, left-1)
		}
	}
	add("", most)
}

// eachEdit calls visit with each span of a string, and each of some strings in its place.
func eachEdit(text string, news []string, visit func(e api.Edit)) {
	for from := range len(text) + 1 {
		for to := from; to <= len(text); to++ {
			for _, s := range news {
				visit(edit(from, to, s))
			}
		}
	}
}

// someParts are items, right ones and broken ones, and what is no item.
var someParts = list(
	"import a;", "import m;", "import", "import // r\n", "type T = A;", "type List[a] = End | More(a, List[a]);", "type T[", "type = A |",
	"def f(x) = x + 1;", "def f(x) = x + 1;", "def g() = f(2)", "def g(", "def f // r\n", "def", "def f() = match x { A(-1, _) => 1,", "def h(x: Int): (T) -> m.T[a] =\n\tif x then\n\t\t1\n\telse \"t\";",
	";", ";", "x;", "x", "x y z;", "= 1;", ") ;", "#", "#&", "&", "&&", "\"", "\"t", "\"t\";", "/", "- >",
	"def f() = "+strings.Repeat("(", 100), "def f(x: "+strings.Repeat("(", 100), "type T = A("+strings.Repeat("T[", 99)+"(",
)

// someGaps stand between parts, and are put by edits.
var someGaps = list(" ", " ", "", "\n", "\n", "\n", "\n\n", "\t", "\r\n", " // r\n", "//\n", " // \"\n")

// someNews are put by edits.
var someNews = list("", "", "", " ", "\n", ";", ";", "\"", "/", "//", "&", "#", "=", "(", ")", "x", "1", "def", "def ", "import b;", "\ntype ", "x;", "def g() = 2;")

func oneOf(r *rand.Rand, all []string) string { return all[r.Intn(len(all))] }

// randomText returns a string of at most most parts.
func randomText(r *rand.Rand, most int) string {
	var s strings.Builder
	for range r.Intn(most + 1) {
		s.WriteString(oneOf(r, someParts))
		s.WriteString(oneOf(r, someGaps))
	}
	return s.String()
}

// randomEdits returns edits that are often short, and often at the ends of tokens.
func randomEdits(r *rand.Rand, text string, most int) []api.Edit {
	tokens, _ := token.Lex(text)
	ends := list(0)
	for _, t := range tokens {
		ends = append(ends, ends[len(ends)-1]+len(t.Text))
	}
	var offsets []int
	for range 2 * r.Intn(most+1) {
		offset := ends[r.Intn(len(ends))]
		if r.Intn(4) == 0 {
			offset = r.Intn(len(text) + 1)
		}
		offsets = append(offsets, offset)
	}
	slices.Sort(offsets)
	var edits []api.Edit
	for i := 0; i < len(offsets); i += 2 {
		from, to := offsets[i], offsets[i+1]
		switch r.Intn(3) {
		case 0:
			to = from
		case 1:
			to = min(to, from+1+r.Intn(3))
		}
		put := oneOf(r, someNews)
		if r.Intn(4) == 0 {
			put = oneOf(r, someGaps) + oneOf(r, someParts) + oneOf(r, someGaps)
		}
		edits = append(edits, edit(from, to, put))
	}
	return edits
}

// someEdits calls visit with strings and edits of them, always the same ones.
func someEdits(count int, visit func(r *rand.Rand, text string, edits []api.Edit)) {
	r := rand.New(rand.NewSource(7))
	for range count {
		text := randomText(r, 6)
		visit(r, text, randomEdits(r, text, 3))
	}
}
