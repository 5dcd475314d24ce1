package token_test

import (
	"math/rand"
	"slices"
	"strconv"
	"strings"

	"marginalia/api"
)

// The models say again, in the plainest way, what the document says: the tests hold the package against them.

const (
	letters = "abcdefghijklmnopqrstuvwxyzABCDEFGHIJKLMNOPQRSTUVWXYZ_"
	digits  = "0123456789"
)

var (
	modelWords = strings.Fields("import type def let in if then else match fn true false")
	modelSigns = strings.Fields("( ) [ ] { } , ; : = | . + - * < ! -> => == && ||")
)

// allOf reports whether a string has bytes of a set alone, and at least one.
func allOf(s, set string) bool {
	return s != "" && strings.Trim(s, set) == ""
}

// modelIsText takes the pairs out: what is left between the marks has no mark, no backslash and no line feed.
func modelIsText(s string) bool {
	if len(s) < 2 || s[0] != '"' || s[len(s)-1] != '"' {
		return false
	}
	left := strings.NewReplacer(`\n`, "", `\"`, "", `\\`, "").Replace(s[1 : len(s)-1])
	return !strings.ContainsAny(left, "\"\\\n")
}

// modelKind returns the kind of a token that is no TkBad, or 0.
func modelKind(s string) int {
	switch {
	case allOf(s, " \t\n\r"):
		return api.TkBlank
	case strings.HasPrefix(s, "//") && !strings.Contains(s, "\n"):
		return api.TkRemark
	case allOf(s, digits):
		return api.TkInt
	case slices.Contains(modelWords, s):
		return api.TkWord
	case allOf(s, letters+digits) && !strings.Contains(digits, s[:1]):
		return api.TkName
	case modelIsText(s):
		return api.TkText
	case slices.Contains(modelSigns, s):
		return api.TkSign
	}
	return 0
}

// modelLongest returns the longest token that is no TkBad with which a string begins, or a zero one.
func modelLongest(s string) api.Token {
	longest := api.Token{}
	for end := 1; end <= len(s); end++ {
		if k := modelKind(s[:end]); k != 0 {
			longest = api.Token{Kind: k, Text: s[:end]}
		}
	}
	return longest
}

// modelFirst returns the first token of a string that is not empty.
func modelFirst(s string) api.Token {
	if t := modelLongest(s); t.Kind != 0 {
		return t
	}
	end := 1
	if s[0] == '"' {
		for end < len(s) && s[end] != '\n' {
			end++
		}
	} else {
		for end < len(s) && s[end] != '"' && modelLongest(s[end:]).Kind == 0 {
			end++
		}
	}
	return api.Token{Kind: api.TkBad, Text: s[:end]}
}

func modelLex(s string) []api.Token {
	var tokens []api.Token
	for s != "" {
		t := modelFirst(s)
		tokens = append(tokens, t)
		s = s[len(t.Text):]
	}
	return tokens
}

func modelIsToken(t api.Token) bool {
	return slices.Equal(modelLex(t.Text), []api.Token{t})
}

func modelApart(a, b api.Token) bool {
	return modelIsToken(a) && modelIsToken(b) && slices.Equal(modelLex(a.Text+b.Text), []api.Token{a, b})
}

// Tokens are written by their kinds.
func blank(s string) api.Token  { return api.Token{Kind: api.TkBlank, Text: s} }
func remark(s string) api.Token { return api.Token{Kind: api.TkRemark, Text: s} }
func name(s string) api.Token   { return api.Token{Kind: api.TkName, Text: s} }
func word(s string) api.Token   { return api.Token{Kind: api.TkWord, Text: s} }
func number(s string) api.Token { return api.Token{Kind: api.TkInt, Text: s} }
func text(s string) api.Token   { return api.Token{Kind: api.TkText, Text: s} }
func sign(s string) api.Token   { return api.Token{Kind: api.TkSign, Text: s} }
func bad(s string) api.Token    { return api.Token{Kind: api.TkBad, Text: s} }

// list writes a list of tokens.
func list(tokens ...api.Token) []api.Token { return tokens }

// show writes tokens for a message, long ones cut.
func show(tokens ...api.Token) string {
	var s strings.Builder
	for i, t := range tokens[:min(len(tokens), 20)] {
		if i > 0 {
			s.WriteByte(' ')
		}
		s.WriteString(strconv.Itoa(t.Kind) + strconv.Quote(t.Text[:min(len(t.Text), 40)]))
	}
	return s.String()
}

// joined returns the strings of tokens, one after the other.
func joined(tokens []api.Token) string {
	var s strings.Builder
	for _, t := range tokens {
		s.WriteString(t.Text)
	}
	return s.String()
}

// all calls visit with all strings of at most most parts.
func all(parts []string, most int, visit func(s string)) {
	var add func(s string, left int)
	add = func(s string, left int) {
		visit(s)
		if left == 0 {
			return
		}
		for _, p := range parts {
			add(s+p, left-1)
		}
	}
	add("", most)
}

// some calls visit with random strings of parts, always the same ones.
func some(parts []string, count int, visit func(s string)) {
	r := rand.New(rand.NewSource(3))
	for range count {
		var s strings.Builder
		for range r.Intn(16) {
			s.WriteString(parts[r.Intn(len(parts))])
		}
		visit(s.String())
	}
}

// bytesOfAllSorts has a byte of each sort that the chapter tells apart.
var bytesOfAllSorts = strings.Split(" \n/a1\"\\n=>&#", "")

// partsOfAllSorts has beginnings and ends of all that can be a token.
var partsOfAllSorts = append(strings.Split(" \t\n\r/_azAZ09\"\\=>-|&<!:.,#$@`[{^~%?'\x00\x0b\x0c\x7f\x1f", ""),
	"//", "/", `\n`, `\"`, `\\`, `\x`, `"ab"`, `"`, `"`, "\n", "\n", "in", "import", "imp", "ort", "fn", "f", "true", "def", "de", "->", "=>", "==", "&&", "||", "12", "\x80", "\xff", "\u00e9", "\U0001f600", "\u00a0", "\u0663")
