package style_test

import (
	"math/rand"
	"strings"

	"marginalia/token"
)

// author writes right sources by chance, by the grammar of DOC.md's Terms, and besides what they look like in good style: it knows where it writes what.
type author struct {
	r      *rand.Rand
	raw    strings.Builder
	want   strings.Builder
	last   string // the last thing; none at the beginning
	joined bool   // whether nothing stands between it and the next one
	breaks bool   // whether a new line begins after it
	deep   int    // how many braces are open
	count  int
}

func (a *author) chance(of int) bool { return a.r.Intn(of) == 0 }

func (a *author) oneOf(parts ...string) string { return parts[a.r.Intn(len(parts))] }

// gap returns blanks with some line feeds.
func (a *author) gap(lines int) string {
	gap := a.oneOf("", "", " ", "  ", "\t", "\r")
	for range lines {
		gap += "\n" + a.oneOf("", "", " ", "\t", "\r", "   ")
	}
	return gap
}

// lines says how many line feeds are in a gap: few, and one at least after a remark.
func (a *author) lines() int {
	if strings.HasPrefix(a.last, "//") {
		return 1 + a.r.Intn(2)*a.r.Intn(3)
	}
	return []int{0, 0, 0, 0, 1, 2, 3}[a.r.Intn(7)]
}

// say writes a solid token, which may have before it what begins the text: a blank, unless the last one lets none be there, or a line feed.
func (a *author) say(text string) {
	part := strings.TrimLeft(text, " \n")
	inner := a.deep
	if part == "}" {
		inner++
	}
	for range a.someRemarks() {
		a.remark(inner)
	}
	gap := a.gap(a.lines())
	if gap == "" && !canTouch(a.last, part) {
		gap = " "
	}
	between := strings.TrimSuffix(text, part)
	switch {
	case a.last == "":
		between = ""
	case a.breaks || between == "\n":
		between = "\n" + a.indentation(a.deep)
	case a.joined:
		between = ""
	}
	a.write(gap+part, between+part)
	a.joined = part == "(" || part == "[" || part == "."
	a.breaks = false
	a.count++
}

func (a *author) write(raw, want string) {
	a.raw.WriteString(raw)
	a.want.WriteString(want)
	a.last = strings.TrimLeft(want, " \n")
}

func (a *author) indentation(deep int) string { return strings.Repeat("  ", deep) }

func (a *author) someRemarks() int {
	return max(0, a.r.Intn(20)-17)
}

// remark writes a remark at the end of a line, or on one of its own, and returns whether it has one, and how many line feeds are before it.
func (a *author) remark(deep int) (own bool, lines int) {
	lines = a.lines()
	own = lines > 0 || a.last == ""
	text := a.oneOf("//", "// r", "//\ts \"", "// def", "//\r.")
	between := "  "
	switch {
	case a.last == "":
		between = ""
	case own || a.breaks:
		between = "\n" + a.indentation(deep)
	}
	a.write(a.gap(lines)+text+a.oneOf("", " ", "\t\r", "  "), between+text)
	a.breaks = true
	return own, lines
}

// canTouch says no rather than find out: only brackets, commas and semicolons are sure to stay what they are.
func canTouch(a, b string) bool {
	alone := func(s string) bool { return s != "" && strings.Trim(s, "()[]{},;") == "" }
	return alone(a) || alone(b) || a == ""
}

// begin writes the first word of an item, with remarks before it, and the empty line that belongs there: before the last group of remarks on lines of their own, or the word.
func (a *author) begin(word string) {
	isFirst := a.last == ""
	group, isGroup, hasEmpty := 0, false, false
	for range a.r.Intn(2) * a.r.Intn(4) {
		end := a.want.Len()
		own, lines := a.remark(0)
		if own && (!isGroup || lines > 1) {
			group, hasEmpty = end, lines > 1
		}
		isGroup = own
	}
	lines := a.lines()
	if !isGroup || lines > 1 {
		group, hasEmpty = a.want.Len(), lines > 1
	}
	a.write(a.gap(lines)+word, "\n"+word)
	a.joined, a.breaks = false, false
	want := a.want.String()
	if (word != "import" || hasEmpty) && group > 0 {
		want = want[:group] + "\n" + want[group:]
	}
	if isFirst {
		want = strings.TrimLeft(want, "\n")
	}
	a.want.Reset()
	a.want.WriteString(want)
}

// end writes what is after the last thing, and returns both strings.
func (a *author) end() (raw, want string) {
	for range a.someRemarks() {
		a.remark(0)
	}
	if a.last != "" {
		a.want.WriteString("\n")
	}
	return a.raw.String() + a.gap(a.r.Intn(3)), a.want.String()
}

func (a *author) small() string { return a.oneOf("a", "b", "f", "xs", "_", "_1", "aB") }

func (a *author) great() string { return a.oneOf("A", "List", "T1", "Z_") }

// several writes one thing or more, with a sign between them.
func (a *author) several(sign string, thing func()) {
	thing()
	for a.chance(2) {
		a.say(sign)
		thing()
	}
}

// perhaps writes no things, or several.
func (a *author) perhaps(thing func()) {
	if !a.chance(3) {
		a.several(",", thing)
	}
}

func (a *author) qualified(name string) {
	if a.chance(3) {
		a.say(" " + a.small())
		a.say(".")
	}
	a.say(" " + name)
}

func (a *author) item() {
	switch a.r.Intn(5) {
	case 0, 1:
		a.begin("import")
		a.say(" " + a.small())
	case 2:
		a.begin("type")
		a.say(" " + a.great())
		if a.chance(2) {
			a.say("[")
			a.several(",", func() { a.say(" " + a.small()) })
			a.say("]")
		}
		a.say(" =")
		a.several(" |", a.variant)
	default:
		a.begin("def")
		a.say(" " + a.small())
		a.params()
		if a.chance(2) {
			a.say(":")
			a.written(3)
		}
		a.say(" =")
		a.expr(4)
	}
	a.say(";")
}

func (a *author) variant() {
	a.say(" " + a.great())
	if a.chance(2) {
		a.say("(")
		a.several(",", func() { a.written(2) })
		a.say(")")
	}
}

func (a *author) params() {
	a.say("(")
	a.perhaps(func() {
		a.say(" " + a.small())
		if a.chance(3) {
			a.say(":")
			a.written(2)
		}
	})
	a.say(")")
}

func (a *author) written(most int) {
	switch {
	case most > 0 && a.chance(4):
		a.say(" (")
		a.perhaps(func() { a.written(most - 1) })
		a.say(")")
		a.say(" ->")
		a.written(most - 1)
	case a.chance(3):
		a.say(" " + a.small())
	default:
		a.qualified(a.great())
		if most > 0 && a.chance(2) {
			a.say("[")
			a.several(",", func() { a.written(most - 1) })
			a.say("]")
		}
	}
}

// expr writes an expression: what has no end of its own is at the end of one, as nothing after it would be outside of it.
func (a *author) expr(most int) {
	if a.count > 100 {
		most = 0
	}
	if most > 0 && a.chance(2) {
		a.open(most - 1)
		return
	}
	a.operators(most, 1)
	if most > 0 && a.chance(4) {
		a.say(a.oneOf(" +", " *", " &&", " ||"))
		a.open(most - 1)
	}
}

func (a *author) open(most int) {
	switch a.r.Intn(5) {
	case 0:
		a.say(" if")
		a.expr(most)
		a.say(" then")
		a.expr(most)
		a.say(" else")
		a.expr(most)
	case 1:
		a.say(" let")
		a.say(" " + a.small())
		a.say(" =")
		a.expr(most)
		a.say(" in")
		a.expr(most)
	case 2:
		a.say(" fn")
		a.params()
		a.say(" =>")
		a.expr(most)
	default:
		a.match(most)
	}
}

func (a *author) match(most int) {
	a.say(" match")
	a.expr(most)
	a.say(" {")
	a.deep++
	for again := true; again; again = a.chance(2) {
		if a.last != "{" && !a.breaks {
			a.say(",")
		}
		a.breaks = true
		a.pattern(2)
		a.say(" =>")
		a.expr(most)
	}
	a.deep--
	a.say("\n}")
}

func (a *author) pattern(most int) {
	switch {
	case a.chance(3):
		a.say(a.oneOf(" _", " x", " 1", ` "t"`, ` ""`, " true", " false"))
	case a.chance(4):
		a.sign("-")
		a.say(a.oneOf(" 0", " 42"))
	default:
		a.qualified(a.great())
		if most > 0 && a.chance(2) {
			a.say("(")
			a.several(",", func() { a.pattern(most - 1) })
			a.say(")")
		}
	}
}

// sign writes a sign before one thing.
func (a *author) sign(sign string) {
	a.say(" " + sign)
	a.joined = true
}

func (a *author) operators(most, level int) {
	if level > 5 {
		a.operand(most)
		return
	}
	signs := strings.Fields([]string{"||", "&&", "== <", "+ -", "*"}[level-1])
	a.operators(most, level+1)
	for again := a.chance(5); again; again = level != 3 && a.chance(3) {
		a.say(" " + a.oneOf(signs...))
		a.operators(most, level+1)
	}
}

func (a *author) operand(most int) {
	for a.chance(6) {
		a.sign(a.oneOf("-", "!"))
	}
	switch {
	case most > 0 && a.chance(5):
		a.say(" (")
		a.expr(most - 1)
		a.say(")")
	case most > 0 && a.chance(8):
		// A match has an end of its own; as a whole expression it would not be called.
		a.say(" 0")
		a.say(" +")
		a.match(most - 1)
	case a.chance(2):
		a.say(a.oneOf(" 0", " 1", " 99999999999999999999", ` "t"`, ` "// \n"`, " true", " false"))
	default:
		a.qualified(a.oneOf("a", "B", "f", "C"))
	}
	for most > 0 && a.chance(4) {
		a.say("(")
		a.perhaps(func() { a.expr(most - 1) })
		a.say(")")
	}
}

// someSources calls visit with right sources of a few items, always the same ones, and what they look like in good style.
func someSources(count int, visit func(r *rand.Rand, text, want string)) {
	r := rand.New(rand.NewSource(9))
	for range count {
		a := &author{r: r}
		for range r.Intn(4) {
			a.item()
		}
		text, want := a.end()
		visit(r, text, want)
	}
}

// anyParts are solid tokens of all sorts, and remarks.
var anyParts = strings.Fields(`import type def let in if then else match fn true false ( ) [ ] { } , ; : = | . + - * < ! -> => == && || a b _ A B 0 1 "t" # > / "x //r`)

var anyGaps = list("", "", " ", " ", " ", "  ", "\n", "\n", "\n\n", "\n\n\n", "\t", "\r\n", "\r\n\n", " \r", "\n// r\n", " // \"\t\n", "\n//\n", "\n \n//\r\n\t//\n")

// broken changes tokens by chance: one is lost, put in place of another one, put in, or two are exchanged.
func broken(r *rand.Rand, text string) string {
	var parts []string
	tokens, _ := token.Lex(text)
	for _, t := range tokens {
		parts = append(parts, t.Text)
	}
	for range 1 + r.Intn(4) {
		if len(parts) == 0 {
			break
		}
		i, k := r.Intn(len(parts)), r.Intn(len(parts))
		other := anyGaps[r.Intn(len(anyGaps))] + anyParts[r.Intn(len(anyParts))] + anyGaps[r.Intn(len(anyGaps))]
		switch r.Intn(5) {
		case 0, 1:
			parts = append(parts[:i], parts[i+1:]...)
		case 2:
			parts[i] = other
		case 3:
			parts = append(parts[:i], append(list(other), parts[i:]...)...)
		case 4:
			parts[i], parts[k] = parts[k], parts[i]
		}
	}
	return strings.Join(parts, "")
}

// someBroken calls visit with sources that have lost their form here or there.
func someBroken(count int, visit func(r *rand.Rand, text string)) {
	someSources(count, func(r *rand.Rand, text, _ string) {
		text = broken(r, text)
		if r.Intn(4) == 0 {
			text = text[:r.Intn(len(text)+1)]
		}
		visit(r, text)
	})
}

// someMess calls visit with strings of tokens of all sorts without any order, after beginnings of items.
func someMess(count int, visit func(r *rand.Rand, text string)) {
	r := rand.New(rand.NewSource(99))
	begins := list("", "", "import", "type T =", "type T[", "def", "def f() =", "def f() = match x {", "def f() = match x { a => match y { b =>", "def f() = - ", "def f(", "def f(x: ")
	for range count {
		text := anyGaps[r.Intn(len(anyGaps))] + begins[r.Intn(len(begins))]
		for range r.Intn(12) {
			text += anyGaps[r.Intn(len(anyGaps))] + anyParts[r.Intn(len(anyParts))]
		}
		visit(r, text+anyGaps[r.Intn(len(anyGaps))])
	}
}

// someBytes calls visit with strings of bytes of all sorts, many of which stand in sources.
func someBytes(count int, visit func(r *rand.Rand, text string)) {
	r := rand.New(rand.NewSource(999))
	for range count {
		b := make([]byte, r.Intn(40))
		for i := range b {
			b[i] = byte(r.Intn(256))
			if r.Intn(2) == 0 {
				b[i] = "def f(x)=1;\n \"/"[r.Intn(15)]
			}
		}
		visit(r, string(b))
	}
}

// someTexts calls visit with strings of all sorts.
func someTexts(count int, visit func(r *rand.Rand, text string)) {
	someSources(count, func(r *rand.Rand, text, _ string) { visit(r, text) })
	someBroken(count, visit)
	someMess(count, visit)
	someBytes(count, visit)
}

// all calls visit with all strings of at most most parts.
func all(parts []string, most int, visit func(s string)) {
	var add func(s string, left int)
	add = func(s string, left int) {
		visit(s)
		if left == 0 {
			return
		}
		for _, p := range parts {
			add(s+p, left-1)
		}
	}
	add("", most)
}
