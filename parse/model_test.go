package parse_test

import (
	"fmt"
	"slices"
	"strconv"
	"strings"
	"testing"

	"marginalia/api"
	"marginalia/parse"
	"marginalia/token"
	"marginalia/tree"
)

// The model says again, in the plainest way, what the chapter says: its rules are the chapter's sentences, which are gone through word by word. The tests hold the package against it.
//
//	take           the next token is taken
//	expect:x small great int name
//	               a token is expected
//	miss:x         something is missed
//	if:x { .. }    if x is next, what is in the brackets
//	when:x { .. }  the same, and nothing after it
//	while:x { .. } as long as x is next, what is in the brackets
//	open:x { .. }  a node is opened, and closed after what is in the brackets
//	wrap:x { .. }  the last kid is wrapped into a node
//	do:x           another rule
//	in:x           another rule, one deeper
var modelRules = map[string]string{
	"import":   "take small expect:;",
	"type":     "take great if:[ { open:Vars { take small while:, { take small } expect:] } } expect:= do:variant while:| { take do:variant } expect:;",
	"variant":  "open:Variant { great if:( { open:Args { take in:a-type while:, { take in:a-type } expect:) } } }",
	"def":      "take small do:params if:: { take in:a-type } expect:= in:expr expect:;",
	"params":   "open:Params { expect:( if:small { do:param while:, { take do:param } } expect:) }",
	"param":    "open:Param { small if:: { take in:a-type } }",
	"a-type":   "when:( { open:TypeFn { take if:type-begins { in:a-type while:, { take in:a-type } } expect:) expect:-> in:a-type } } when:name { open:TypeName { take if:small. { take great } if:great[ { open:TypeArgs { take in:a-type while:, { take in:a-type } expect:] } } } } miss:type",
	"expr":     "when:if { do:if } when:let { do:let } when:fn { do:fn } when:match { do:match } do:level1",
	"if":       "open:If { take in:expr expect:then in:expr expect:else in:expr }",
	"let":      "open:Let { take small expect:= in:expr expect:in in:expr }",
	"fn":       "open:Fn { take do:params expect:=> in:expr }",
	"match":    "open:Match { take in:expr expect:{ do:case while:, { take do:case } expect:} }",
	"case":     "open:Case { in:pattern expect:=> in:expr }",
	"level1":   "do:level2 if:level1 { wrap:Binary { while:level1 { take do:level2 } } }",
	"level2":   "do:level3 if:level2 { wrap:Binary { while:level2 { take do:level3 } } }",
	"level3":   "do:level4 if:level3 { wrap:Binary { take do:level4 } }",
	"level4":   "do:level5 if:level4 { wrap:Binary { while:level4 { take do:level5 } } }",
	"level5":   "do:signed if:level5 { wrap:Binary { while:level5 { take do:signed } } }",
	"signed":   "when:- { do:unary } when:! { do:unary } do:simple if:( { wrap:Call { while:( { do:args } } }",
	"unary":    "open:Unary { take in:signed }",
	"args":     "open:Args { take if:no) { in:expr while:, { take in:expr } } expect:) }",
	"simple":   "when:literal { open:Literal { take } } when:name { open:Name { take if:small. { take name } } } when:( { open:Paren { take in:expr expect:) } } when:if { in:expr } when:let { in:expr } when:fn { in:expr } when:match { in:expr } miss:expression",
	"pattern":  "when:literal { open:Pattern { take } } when:- { open:Pattern { take int } } when:name { open:Pattern { take if:small. { take great } if:great( { do:patterns } } } miss:pattern",
	"patterns": "open:Patterns { take in:pattern while:, { take in:pattern } expect:) }",
}

var modelLevels = map[string][]string{"level1": {"||"}, "level2": {"&&"}, "level3": {"==", "<"}, "level4": {"+", "-"}, "level5": {"*"}}

// kindNames are the names of the nodes' kinds, by their numbers.
var kindNames = strings.Fields("none Token File Error Import TypeDef Vars Variant Def Params Param TypeFn TypeName TypeArgs If Let Fn Match Case Binary Unary Call Args Name Literal Paren Pattern Patterns Missing")

// knot is a Node of the model.
type knot struct {
	kind  int
	token api.Token
	kids  []*knot
}

func (k *knot) node() api.Node {
	n := api.Node{Kind: k.kind, Token: k.token}
	for _, kid := range k.kids {
		n.Kids = append(n.Kids, kid.node())
	}
	return n
}

type model struct {
	tokens []api.Token
	at     int   // how many tokens are leaves
	taken  []int // the indexes of the tokens that were taken
	told   bool
	open   []*knot
	notes  []api.Note
}

// modelParse returns the tree of a string, and its notes.
func modelParse(text string) (api.Node, []api.Note) {
	m := &model{open: []*knot{{kind: api.NdFile}}}
	m.tokens, _ = token.Lex(text)
	for m.next() < len(m.tokens) {
		switch word := m.tokens[m.next()].Text; word {
		case "import", "type", "def":
			m.opened(map[string]string{"import": "Import", "type": "TypeDef", "def": "Def"}[word], func() { m.do(word, 0) })
		default:
			m.opened("Error", m.wrong)
		}
	}
	m.trivia()
	for i, k := range m.tokens {
		if k.Kind == api.TkBad {
			m.notes = append(m.notes, api.Note{Code: api.CodeBad, Span: m.span(i)})
		}
	}
	slices.SortFunc(m.notes, func(a, b api.Note) int {
		return slices.Compare(list(a.Span.From, a.Span.To, a.Code), list(b.Span.From, b.Span.To, b.Code))
	})
	return m.open[0].node(), m.notes
}

func (m *model) wrong() {
	if !m.told {
		m.notes = append(m.notes, api.Note{Code: api.CodeItem, Span: m.span(m.next())})
	}
	for {
		last := m.tokens[m.next()].Text
		m.take()
		if last == ";" || m.next() == len(m.tokens) || m.is("import") || m.is("type") || m.is("def") {
			return
		}
	}
}

// next returns the index of the next token.
func (m *model) next() int {
	i := m.at
	for i < len(m.tokens) && (m.tokens[i].Kind == api.TkBlank || m.tokens[i].Kind == api.TkRemark) {
		i++
	}
	return i
}

// span returns the span of the token with an index, or the end.
func (m *model) span(index int) api.Span {
	from := len(joined(m.tokens[:index]))
	return api.Span{From: from, To: len(joined(m.tokens[:min(index+1, len(m.tokens))]))}
}

// is reports whether something is next.
func (m *model) is(what string) bool {
	var k, last api.Token
	if m.next() < len(m.tokens) {
		k = m.tokens[m.next()]
	}
	if len(m.taken) > 0 {
		last = m.tokens[m.taken[len(m.taken)-1]]
	}
	if signs, is := modelLevels[what]; is {
		return slices.Contains(signs, k.Text)
	}
	switch what {
	case "name":
		return k.Kind == api.TkName
	case "small", "great":
		return k.Kind == api.TkName && (what == "great") == (k.Text[0] >= 'A' && k.Text[0] <= 'Z')
	case "int":
		return k.Kind == api.TkInt
	case "literal":
		return k.Kind == api.TkInt || k.Kind == api.TkText || m.is("true") || m.is("false")
	case "type-begins":
		return m.is("(") || m.is("name")
	case "no)":
		return !m.is(")")
	case "small.":
		return k.Text == "." && last.Kind == api.TkName && last.Text[0] > 'Z'
	case "great[", "great(":
		return k.Text == what[5:] && last.Kind == api.TkName && last.Text[0] <= 'Z'
	}
	return k.Text == what
}

func (m *model) kid(k *knot) {
	inner := m.open[len(m.open)-1]
	inner.kids = append(inner.kids, k)
}

func (m *model) trivia() {
	for next := m.next(); m.at < next; m.at++ {
		m.kid(&knot{kind: api.NdToken, token: m.tokens[m.at]})
	}
}

func (m *model) take() {
	m.trivia()
	m.taken = append(m.taken, m.at)
	m.kid(&knot{kind: api.NdToken, token: m.tokens[m.at]})
	m.at++
	m.told = false
}

func (m *model) opened(kind string, inside func()) {
	m.trivia()
	k := &knot{kind: slices.Index(kindNames, kind)}
	m.kid(k)
	m.inside(k, inside)
}

func (m *model) inside(k *knot, inside func()) {
	m.open = append(m.open, k)
	inside()
	m.open = m.open[:len(m.open)-1]
}

func (m *model) wrapped(kind string, inside func()) {
	kids := m.open[len(m.open)-1].kids
	k := &knot{kind: slices.Index(kindNames, kind), kids: list(kids[len(kids)-1])}
	kids[len(kids)-1] = k
	m.inside(k, inside)
}

func (m *model) miss(thing string) {
	m.kid(&knot{kind: api.NdMissing})
	if !m.told {
		end := 0
		if len(m.taken) > 0 {
			end = m.span(m.taken[len(m.taken)-1]).To
		}
		m.notes = append(m.notes, api.Note{Code: api.CodeExpected, Span: api.Span{From: end, To: end}, Args: list(thing)})
	}
	m.told = true
}

func (m *model) expect(what string) {
	if m.is(what) {
		m.take()
	} else {
		m.miss(what)
	}
}

// do goes through a rule at a depth.
func (m *model) do(rule string, depth int) {
	if depth > 100 {
		m.kid(&knot{kind: api.NdMissing})
		m.notes = append(m.notes, api.Note{Code: api.CodeDeep, Span: m.span(m.next())})
		return
	}
	m.steps(strings.Fields(modelRules[rule]), depth)
}

func (m *model) steps(steps []string, depth int) {
	for i := 0; i < len(steps); i++ {
		word, what, _ := strings.Cut(steps[i], ":")
		block, size := blockOf(steps[i+1:])
		i += size
		inside := func() { m.steps(block, depth) }
		switch word {
		case "take":
			m.take()
		case "expect":
			m.expect(what)
		case "small", "great", "int", "name":
			m.expect(word)
		case "miss":
			m.miss(what)
		case "if":
			if m.is(what) {
				inside()
			}
		case "when":
			if m.is(what) {
				inside()
				return
			}
		case "while":
			for m.is(what) {
				inside()
			}
		case "open":
			m.opened(what, inside)
		case "wrap":
			m.wrapped(what, inside)
		case "do":
			m.do(what, depth)
		case "in":
			m.do(what, depth+1)
		default:
			panic(word)
		}
	}
}

// blockOf returns what is in the brackets with which a rule goes on, and how many words they and it are.
func blockOf(steps []string) (block []string, size int) {
	if len(steps) == 0 || steps[0] != "{" {
		return nil, 0
	}
	for depth := 0; ; size++ {
		switch steps[size] {
		case "{":
			depth++
		case "}":
			depth--
		}
		if depth == 0 {
			return steps[1:size], size + 1
		}
	}
}

// joined returns the string of tokens.
func joined(tokens []api.Token) string {
	var s strings.Builder
	for _, k := range tokens {
		s.WriteString(k.Text)
	}
	return s.String()
}

// list writes a list of anything.
func list[T any](all ...T) []T { return all }

// show writes a Node: leaves by their strings, blanks as ~, what is missing as ?.
func show(n api.Node) string {
	switch {
	case n.Kind == api.NdToken && n.Token.Kind == api.TkBlank:
		return "~"
	case n.Kind == api.NdToken:
		return n.Token.Text
	case n.Kind == api.NdMissing && len(n.Kids) == 0:
		return "?"
	case n.Kind < 0 || n.Kind >= len(kindNames):
		return strconv.Itoa(n.Kind)
	}
	return kindNames[n.Kind] + "[" + showAll(n.Kids) + "]"
}

func showAll(l []api.Node) string {
	var all []string
	for _, n := range l {
		all = append(all, show(n))
	}
	return strings.Join(all, " ")
}

// showNotes writes notes: of each its code, its span (empty ones as one number), and its Args.
func showNotes(notes []api.Note) string {
	codes := map[int]string{api.CodeBad: "bad", api.CodeItem: "item", api.CodeExpected: "expected", api.CodeDeep: "deep"}
	var all []string
	for _, k := range notes {
		s := codes[k.Code] + " " + strconv.Itoa(k.Span.From)
		if k.Span.To != k.Span.From {
			s += "-" + strconv.Itoa(k.Span.To)
		}
		all = append(all, strings.Join(append(list(s), k.Args...), " "))
	}
	return strings.Join(all, ", ")
}

func sameNotes(a, b []api.Note) bool {
	return slices.EqualFunc(a, b, func(a, b api.Note) bool {
		return a.Code == b.Code && a.Span == b.Span && slices.Equal(a.Args, b.Args)
	})
}

// short writes a string that may be long.
func short(s string) string {
	if len(s) > 300 {
		return fmt.Sprintf("%q and %d bytes more", s[:300], len(s)-300)
	}
	return strconv.Quote(s)
}

// parsed returns the tree of a string and its notes, which is not too long.
func parsed(t *testing.T, text string) (api.Node, []api.Note) {
	t.Helper()
	n, notes, e := parse.Parse(text)
	if e != api.OK {
		t.Fatalf("Parse(%s): %d", short(text), e)
	}
	return n, notes
}

// agrees holds all that the package says of a string against the model.
func agrees(t *testing.T, text string) {
	t.Helper()
	n, notes := parsed(t, text)
	want, wantNotes := modelParse(text)
	if !tree.Same(n, want) {
		t.Errorf("the tree of %s is\n%s, not\n%s", short(text), show(n), show(want))
	}
	if !sameNotes(notes, wantNotes) {
		t.Errorf("the notes of %s are\n%s, not\n%s", short(text), showNotes(notes), showNotes(wantNotes))
	}
	tokens, _ := token.Lex(text)
	if got, e := parse.Tree(tokens); !tree.Same(got, want) || e != api.OK {
		t.Errorf("Tree of the tokens of %s: %s, %d", short(text), show(got), e)
	}
	if got, e := parse.Notes(n); !sameNotes(got, wantNotes) || e != api.OK || !parse.IsTree(n) {
		t.Errorf("Notes of the tree of %s: %s, %d", short(text), showNotes(got), e)
	}
	if got, e := parse.Items(n); !slices.Equal(got, modelItems(want)) || e != api.OK {
		t.Errorf("Items of the tree of %s: %v, %d, not %v", short(text), got, e, modelItems(want))
	}
	if got := parse.Good(text); got != (len(wantNotes) == 0) {
		t.Errorf("Good(%s) = %v", short(text), got)
	}
}

// modelItems returns the cores of the items of a tree.
func modelItems(n api.Node) []api.Span {
	var items []api.Span
	for i, kid := range n.Kids {
		if kid.Kind == api.NdImport || kid.Kind == api.NdTypeDef || kid.Kind == api.NdDef {
			core, _ := tree.Core(n, list(i))
			items = append(items, core)
		}
	}
	return items
}
