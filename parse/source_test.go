package parse_test

import (
	"math/rand"
	"strings"
)

// writer writes right sources by chance, by the grammar of DOC.md's Terms.
type writer struct {
	r     *rand.Rand
	parts []string
}

func (w *writer) say(parts ...string) { w.parts = append(w.parts, parts...) }

func (w *writer) oneOf(parts ...string) { w.say(parts[w.r.Intn(len(parts))]) }

func (w *writer) chance(of int) bool { return w.r.Intn(of) == 0 }

func (w *writer) small() { w.oneOf("a", "b", "f", "xs", "_", "_1", "aB") }

func (w *writer) great() { w.oneOf("A", "List", "T1", "Z_") }

func (w *writer) int() { w.oneOf("0", "1", "42", "007") }

// several writes one thing or more, with a sign between them.
func (w *writer) several(sign string, thing func()) {
	thing()
	for w.chance(2) {
		w.say(sign)
		thing()
	}
}

// perhaps writes no things, or several.
func (w *writer) perhaps(thing func()) {
	if !w.chance(3) {
		w.several(",", thing)
	}
}

func (w *writer) qualified() {
	if w.chance(3) {
		w.small()
		w.say(".")
	}
}

func (w *writer) item() {
	switch w.r.Intn(5) {
	case 0:
		w.say("import")
		w.small()
	case 1:
		w.say("type")
		w.great()
		if w.chance(2) {
			w.say("[")
			w.several(",", w.small)
			w.say("]")
		}
		w.say("=")
		w.several("|", w.variant)
	default:
		w.say("def")
		w.small()
		w.params()
		if w.chance(2) {
			w.say(":")
			w.written(3)
		}
		w.say("=")
		w.expr(4)
	}
	w.say(";")
}

func (w *writer) variant() {
	w.great()
	if w.chance(2) {
		w.say("(")
		w.several(",", func() { w.written(2) })
		w.say(")")
	}
}

func (w *writer) params() {
	w.say("(")
	w.perhaps(func() {
		w.small()
		if w.chance(3) {
			w.say(":")
			w.written(2)
		}
	})
	w.say(")")
}

func (w *writer) written(most int) {
	switch {
	case most > 0 && w.chance(4):
		w.say("(")
		w.perhaps(func() { w.written(most - 1) })
		w.say(")", "->")
		w.written(most - 1)
	case w.chance(3):
		w.small()
	default:
		w.qualified()
		w.great()
		if most > 0 && w.chance(2) {
			w.say("[")
			w.several(",", func() { w.written(most - 1) })
			w.say("]")
		}
	}
}

// expr writes an expression: what has no end of its own is at the end of one, as nothing after it would be outside of it.
func (w *writer) expr(most int) {
	if len(w.parts) > 300 {
		most = 0
	}
	if most > 0 && w.chance(2) {
		w.open(most - 1)
		return
	}
	w.operators(most, 1)
	if most > 0 && w.chance(4) {
		w.oneOf("+", "*", "&&", "||")
		w.open(most - 1)
	}
}

func (w *writer) open(most int) {
	inner := func() { w.expr(most) }
	switch w.r.Intn(4) {
	case 0:
		w.say("if")
		inner()
		w.say("then")
		inner()
		w.say("else")
		inner()
	case 1:
		w.say("let")
		w.small()
		w.say("=")
		inner()
		w.say("in")
		inner()
	case 2:
		w.say("fn")
		w.params()
		w.say("=>")
		inner()
	case 3:
		w.match(most)
	}
}

func (w *writer) match(most int) {
	w.say("match")
	w.expr(most)
	w.say("{")
	w.several(",", func() {
		w.pattern(2)
		w.say("=>")
		w.expr(most)
	})
	w.say("}")
}

func (w *writer) pattern(most int) {
	switch {
	case w.chance(3):
		w.oneOf("_", "x", "1", `"t"`, `""`, "true", "false")
	case w.chance(4):
		w.say("-")
		w.int()
	default:
		w.qualified()
		w.great()
		if most > 0 && w.chance(2) {
			w.say("(")
			w.several(",", func() { w.pattern(most - 1) })
			w.say(")")
		}
	}
}

func (w *writer) operators(most, level int) {
	if level > 5 {
		w.operand(most)
		return
	}
	signs := modelLevels["level"+string(rune('0'+level))]
	w.operators(most, level+1)
	for again := w.chance(5); again; again = level != 3 && w.chance(3) {
		w.oneOf(signs...)
		w.operators(most, level+1)
	}
}

func (w *writer) operand(most int) {
	for w.chance(6) {
		w.oneOf("-", "!")
	}
	switch {
	case most > 0 && w.chance(5):
		w.say("(")
		w.expr(most - 1)
		w.say(")")
	case most > 0 && w.chance(8):
		// A match has an end of its own; as a whole expression it would not be called.
		w.say("0", "+")
		w.match(most - 1)
	case w.chance(2):
		w.oneOf("0", "1", "99999999999999999999", `"t"`, `"\n"`, "true", "false")
	default:
		w.qualified()
		w.oneOf("a", "B", "f", "C")
	}
	for most > 0 && w.chance(4) {
		w.say("(")
		w.perhaps(func() { w.expr(most - 1) })
		w.say(")")
	}
}

// someItems returns the tokens of as many right items.
func someItems(r *rand.Rand, count int) []string {
	w := &writer{r: r}
	for range count {
		w.item()
	}
	return w.parts
}

var someTrivia = list(" ", " ", " ", "  ", "\n", "\t", "\r\n", "// r\n", " // \"\n", "\n//\n")

// spaced writes tokens with trivia between all of them, or here and there, where they cannot be without.
func spaced(r *rand.Rand, parts []string) string {
	var s strings.Builder
	everywhere := r.Intn(2) == 0
	for i, part := range parts {
		if i > 0 && (everywhere || r.Intn(4) == 0 || !canTouch(parts[i-1], part)) {
			s.WriteString(someTrivia[r.Intn(len(someTrivia))])
		}
		s.WriteString(part)
	}
	return s.String()
}

// canTouch says no rather than find out: only brackets, commas and semicolons are sure to stay what they are.
func canTouch(a, b string) bool {
	alone := func(s string) bool { return s != "" && strings.Trim(s, "()[]{},;") == "" }
	return alone(a) || alone(b) && !strings.HasPrefix(a, "//")
}

// anyParts are solid tokens of all sorts.
var anyParts = strings.Fields(`import type def let in if then else match fn true false ( ) [ ] { } , ; : = | . + - * < ! -> => == && || a b _ A B 0 1 "t" # "x`)

// broken changes tokens by chance: one is lost, put in place of another one, put in, or two are exchanged.
func broken(r *rand.Rand, parts []string) []string {
	parts = append([]string(nil), parts...)
	for range 1 + r.Intn(4) {
		if len(parts) == 0 {
			break
		}
		i, k := r.Intn(len(parts)), r.Intn(len(parts))
		other := anyParts[r.Intn(len(anyParts))]
		switch r.Intn(5) {
		case 0, 1:
			parts = append(parts[:i], parts[i+1:]...)
		case 2:
			parts[i] = other
		case 3:
			parts = append(parts[:i], append(list(other), parts[i:]...)...)
		case 4:
			parts[i], parts[k] = parts[k], parts[i]
		}
	}
	return parts
}

// someSources calls visit with sources of a few items, right ones and broken ones, always the same ones.
func someSources(count int, visit func(r *rand.Rand, text string)) {
	r := rand.New(rand.NewSource(6))
	for i := range count {
		parts := someItems(r, r.Intn(4))
		if i%3 > 0 {
			parts = broken(r, parts)
		}
		text := spaced(r, parts)
		if i%7 == 0 {
			text = text[:r.Intn(len(text)+1)]
		}
		visit(r, text)
	}
}

// someMess calls visit with strings of tokens of all sorts without any order.
func someMess(count int, visit func(r *rand.Rand, text string)) {
	r := rand.New(rand.NewSource(66))
	for range count {
		var parts []string
		for range r.Intn(15) {
			parts = append(parts, anyParts[r.Intn(len(anyParts))])
		}
		visit(r, spaced(r, parts))
	}
}

// someBytes calls visit with strings of bytes of all sorts, many of which stand in sources.
func someBytes(count int, visit func(r *rand.Rand, text string)) {
	r := rand.New(rand.NewSource(666))
	for range count {
		b := make([]byte, r.Intn(40))
		for i := range b {
			b[i] = byte(r.Intn(256))
			if r.Intn(2) == 0 {
				b[i] = "def f(x)=1;\n \"/"[r.Intn(15)]
			}
		}
		visit(r, string(b))
	}
}
