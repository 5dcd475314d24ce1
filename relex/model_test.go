package relex_test

import (
	"math/rand"
	"slices"
	"strconv"
	"strings"
	"testing"

	"marginalia/api"
	"marginalia/relex"
	"marginalia/token"
)

// The models say again, in the plainest way, what the document says: the tests hold the package against them.

// modelApply returns the string after edits, and where the New of each stands in it.
func modelApply(text string, edits []api.Edit) (string, []api.Span) {
	var changed strings.Builder
	var news []api.Span
	at := 0
	for _, e := range edits {
		changed.WriteString(text[at:e.From])
		from := changed.Len()
		changed.WriteString(e.New)
		news = append(news, api.Span{From: from, To: changed.Len()})
		at = e.To
	}
	changed.WriteString(text[at:])
	return changed.String(), news
}

// modelLine counts the lines that are met by their numbers.
func modelLine(text string, edits []api.Edit) int {
	changed, news := modelApply(text, edits)
	met := map[int]bool{}
	for _, s := range news {
		for n := strings.Count(changed[:s.From], "\n"); n <= strings.Count(changed[:s.To], "\n"); n++ {
			met[n] = true
		}
	}
	count := 0
	for n, line := range strings.SplitAfter(changed, "\n") {
		if met[n] {
			count += len(line)
		}
	}
	return count
}

// modelLeast returns the least numbers that Relex may return with one edit.
func modelLeast(tokens []api.Token, e api.Edit) (first, last int) {
	text := joined(tokens)
	before, after := -1, -1
	for at := range len(text) {
		if text[at] == '\n' && at < e.From {
			before = at
		}
		if text[at] == '\n' && at >= e.To && after < 0 {
			after = at
		}
	}
	begin := 0
	for _, t := range tokens {
		end := begin + len(t.Text)
		if before >= 0 && end <= before {
			first++
		}
		if after >= 0 && begin > after {
			last++
		}
		begin = end
	}
	return max(first-1, 0), max(last-1, 0)
}

// modelCommon tries all numbers.
func modelCommon(a, b []api.Token) (first, last int) {
	for n := range min(len(a), len(b)) + 1 {
		if slices.Equal(a[:n], b[:n]) {
			first = n
		}
	}
	a, b = a[first:], b[first:]
	for n := range min(len(a), len(b)) + 1 {
		if slices.Equal(a[len(a)-n:], b[len(b)-n:]) {
			last = n
		}
	}
	return first, last
}

// joined returns the strings of tokens, one after the other.
func joined(tokens []api.Token) string {
	var s strings.Builder
	for _, t := range tokens {
		s.WriteString(t.Text)
	}
	return s.String()
}

// show writes tokens for a message, long ones cut.
func show(tokens []api.Token) string {
	var s strings.Builder
	for i, t := range tokens[:min(len(tokens), 30)] {
		if i > 0 {
			s.WriteByte(' ')
		}
		s.WriteString(strconv.Itoa(t.Kind) + strconv.Quote(t.Text[:min(len(t.Text), 40)]))
	}
	return s.String()
}

func name(s string) api.Token  { return api.Token{Kind: api.TkName, Text: s} }
func sign(s string) api.Token  { return api.Token{Kind: api.TkSign, Text: s} }
func blank(s string) api.Token { return api.Token{Kind: api.TkBlank, Text: s} }
func bad(s string) api.Token   { return api.Token{Kind: api.TkBad, Text: s} }

// edit writes an edit.
func edit(from, to int, s string) api.Edit { return api.Edit{From: from, To: to, New: s} }

// list writes a list of anything.
func list[T any](all ...T) []T { return all }

// lex returns the tokens of a string that is not too long.
func lex(t *testing.T, s string) []api.Token {
	t.Helper()
	tokens, e := token.Lex(s)
	if e != api.OK {
		t.Fatalf("Lex(%.40q): %d", s, e)
	}
	return tokens
}

// relexed returns the tokens that Relex makes, when they are to be without an error.
func relexed(t *testing.T, tokens []api.Token, edits []api.Edit) []api.Token {
	t.Helper()
	made, _, _, e := relex.Relex(tokens, edits)
	if e != api.OK {
		t.Fatalf("Relex of %.60q with %v: %d", joined(tokens), edits, e)
	}
	return made
}

// all calls visit with all strings of at most most parts.
func all(parts []string, most int, visit func(s string)) {
	var add func(s string, left int)
	add = func(s string, left int) {
		visit(s)
		if left == 0 {
			return
		}
		for _, p := range parts {
			add(s+p, left-1)
		}
	}
	add("", most)
}

// eachEdit calls visit with each span of a string, and each of some strings in its place.
func eachEdit(text string, news []string, visit func(e api.Edit)) {
	for from := range len(text) + 1 {
		for to := from; to <= len(text); to++ {
			for _, s := range news {
				visit(edit(from, to, s))
			}
		}
	}
}

// partsOfAllSorts has beginnings and ends of all that can be a token, and line feeds often.
var partsOfAllSorts = append(strings.Split(" \t\n\n\n\n\r/_aZ09\"\"\\=>-|&<#`\xff", ""),
	"//", "\n\n", "\n  ", "  \n", "\n// a\n", `\n`, `\"`, `"ab"`, `"a`, "in", "let", "le", "->", "=>", "==", "&&", "||", "12", "\u00e9")

// randomText returns at most most parts, one after the other.
func randomText(r *rand.Rand, most int) string {
	var s strings.Builder
	for range r.Intn(most + 1) {
		s.WriteString(partsOfAllSorts[r.Intn(len(partsOfAllSorts))])
	}
	return s.String()
}

// randomEdits returns edits that are often short, and often at one offset or side by side.
func randomEdits(r *rand.Rand, length, most int) []api.Edit {
	count := r.Intn(most + 1)
	offsets := make([]int, count)
	for i := range offsets {
		offsets[i] = r.Intn(length + 1)
	}
	slices.Sort(offsets)
	var edits []api.Edit
	for i, from := range offsets {
		end := length
		if i+1 < count {
			end = offsets[i+1]
		}
		to := from
		switch r.Intn(4) {
		case 0:
			to = from + r.Intn(end-from+1)
		case 1, 2:
			to = min(end, from+r.Intn(3))
		}
		edits = append(edits, edit(from, to, randomText(r, 3)))
	}
	return edits
}

// someEdits calls visit with random strings and edits of them, always the same ones.
func someEdits(count int, visit func(r *rand.Rand, text string, edits []api.Edit)) {
	r := rand.New(rand.NewSource(4))
	for range count {
		text := randomText(r, 30)
		visit(r, text, randomEdits(r, len(text), 6))
	}
}
