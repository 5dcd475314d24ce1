package view_test

import (
	"cmp"
	"fmt"
	"math"
	"math/rand"
	"reflect"
	"slices"
	"strings"
	"testing"

	"marginalia/api"
	"marginalia/view"
)

// anyModule returns a module of any things: many are zero altogether, or nearly so, and what is in them need not fit their kinds.
func anyModule(r *rand.Rand, most int) api.Module {
	v := reflect.New(reflect.TypeFor[api.Module]()).Elem()
	fill(r, v, most)
	return v.Interface().(api.Module)
}

func fill(r *rand.Rand, v reflect.Value, most int) {
	switch v.Kind() {
	case reflect.Struct:
		if r.Intn(5) > 0 {
			for i := range v.NumField() {
				fill(r, v.Field(i), most)
			}
		}
	case reflect.Slice:
		if r.Intn(3) == 0 {
			return
		}
		v.Set(reflect.MakeSlice(v.Type(), r.Intn(max(1, most)), 20))
		for i := range v.Len() {
			fill(r, v.Index(i), most-1)
		}
	case reflect.String:
		v.SetString(list("", "", "a", "B", "+", "_")[r.Intn(6)])
	default:
		if r.Intn(2) == 0 {
			v.SetInt(list[int64](1, 2, 3, 7, 11, 12, 13, -1, math.MaxInt64, math.MinInt64)[r.Intn(10)])
		}
	}
}

// someModules calls visit with modules of any things, always the same ones.
func someModules(count int, visit func(r *rand.Rand, m api.Module)) {
	r := rand.New(rand.NewSource(84))
	for range count {
		visit(r, anyModule(r, 4))
	}
}

// modelMove changes all spans in a copy of a module, but those of what is zero altogether, if that may be left out.
func modelMove(m api.Module, change func(api.Span) api.Span) api.Module {
	v := reflect.ValueOf(copyOf(m))
	made := reflect.New(v.Type()).Elem()
	made.Set(v)
	modelMoveIn(made, change)
	return made.Interface().(api.Module)
}

func modelMoveIn(v reflect.Value, change func(api.Span) api.Span) {
	switch v.Interface().(type) {
	case api.Name, api.Written, api.Expr, api.Pattern:
		if v.IsZero() {
			return
		}
	case api.Span:
		v.Set(reflect.ValueOf(change(v.Interface().(api.Span))))
		return
	}
	switch v.Kind() {
	case reflect.Struct:
		for i := range v.NumField() {
			modelMoveIn(v.Field(i), change)
		}
	case reflect.Slice:
		for i := range v.Len() {
			modelMoveIn(v.Index(i), change)
		}
	}
}

// modelNames returns all names but those of signs, in the order of the fields, and then of their spans.
func modelNames(m api.Module) []api.Name {
	var names []api.Name
	var in func(v reflect.Value)
	in = func(v reflect.Value) {
		if n, ok := v.Interface().(api.Name); ok {
			if n.Text != "" {
				names = append(names, n)
			}
			return
		}
		e, isExpr := v.Interface().(api.Expr)
		switch v.Kind() {
		case reflect.Struct:
			for i := range v.NumField() {
				isName := v.Type().Field(i).Name == "Name"
				if !isExpr || !isName || e.Kind != api.ExBinary && e.Kind != api.ExUnary {
					in(v.Field(i))
				}
			}
		case reflect.Slice:
			for i := range v.Len() {
				in(v.Index(i))
			}
		}
	}
	in(reflect.ValueOf(m))
	slices.SortStableFunc(names, func(a, b api.Name) int {
		return cmp.Or(cmp.Compare(a.Span.From, b.Span.From), cmp.Compare(a.Span.To, b.Span.To))
	})
	return names
}

func moved(by int) func(api.Span) api.Span {
	return func(s api.Span) api.Span { return api.Span{From: s.From + by, To: s.To + by} }
}

func bare(api.Span) api.Span { return api.Span{} }

// P8.4: Move adds to all offsets, Bare takes all away.
func TestMove(t *testing.T) {
	text := "import m; import; type T[a, ] = A(m.B[a], (a) -> , : | C; def f(x, y: Int, ): T = let z = -(1 + x.y)(2, \"t\") in match z { A(_, -1, b) => true, => if , x < };"
	m := said(t, text)
	for _, by := range []int{0, 1, -1, 7, 1000, -1000, math.MaxInt, math.MinInt} {
		want := modelMove(m, moved(by))
		if got := view.Move(m, by); !isSame(got, want) {
			t.Errorf("moved by %d:\n%s, not\n%s", by, show(got), show(want))
		}
	}
	if got, want := view.Bare(m), modelMove(m, bare); !isSame(got, want) {
		t.Errorf("bare:\n%s, not\n%s", show(got), show(want))
	}
	if got, want := show(view.Move(said(t, "def f(x) = -x;"), 100)), "def f@104(x@106) = unary(-@111 name(x@112)@112-113)@111-113@100-114"; got != want {
		t.Errorf("moved by 100: %s, not %s", got, want)
	}
	got := view.Bare(said(t, "def f(x) = - x;"))
	want := api.Module{Defs: list(api.Def{
		Name:   api.Name{Text: "f"},
		Params: list(api.Param{Name: api.Name{Text: "x"}}),
		Body:   api.Expr{Kind: api.ExUnary, Name: api.Name{Text: "-"}, Kids: list(api.Expr{Kind: api.ExName, Name: api.Name{Text: "x"}})},
	})}
	if !isSame(got, want) {
		t.Errorf("bare: %s, not %s", show(got), show(want))
	}
}

// P8.4: what is a zero value altogether stays as it is, if it is a Name, a Written, an Expr or a Pattern; everything else is moved, whatever it holds; sums go round.
func TestMoveZero(t *testing.T) {
	empty := api.Module{
		Imports: make([]api.Name, 1),
		Types:   list(api.TypeDef{Params: make([]api.Name, 1), Variants: list(api.Variant{Fields: make([]api.Written, 1)})}),
		Defs: list(api.Def{Params: make([]api.Param, 1), Body: api.Expr{
			Kids: make([]api.Expr, 1), Cases: make([]api.Case, 1), Params: make([]api.Param, 1),
		}}),
	}
	want := copyOf(empty)
	two := api.Span{From: 2, To: 2}
	want.Types[0].Span, want.Defs[0].Span, want.Defs[0].Body.Span = two, two, two
	if got := view.Move(empty, 2); !isSame(got, want) {
		t.Errorf("%#v, not %#v", got, want)
	}
	for what, e := range map[string]api.Expr{
		"Kind":   {Kind: api.ExInt},
		"Module": {Module: api.Name{Text: "m"}},
		"Name":   {Name: api.Name{Span: api.Span{To: 1}}},
		"Int":    {Int: -1},
		"Text":   {Text: "t"},
		"Params": {Params: make([]api.Param, 1)},
		"Kids":   {Kids: make([]api.Expr, 1)},
		"Cases":  {Cases: make([]api.Case, 1)},
		"Span":   {Span: api.Span{From: -2, To: -2}},
	} {
		m := api.Module{Defs: list(api.Def{Body: e})}
		if got, want := view.Move(m, 2).Defs[0].Body.Span.From, e.Span.From+2; got != want {
			t.Errorf("an Expr with a %s is moved to %d, not %d", what, got, want)
		}
	}
	for what, p := range map[string]api.Pattern{
		"Kind":   {Kind: api.PtInt},
		"Module": {Module: api.Name{Text: "m"}},
		"Name":   {Name: api.Name{Span: api.Span{To: 1}}},
		"Int":    {Int: -1},
		"Text":   {Text: "t"},
		"Kids":   {Kids: make([]api.Pattern, 1)},
		"Span":   {Span: api.Span{From: -2, To: -2}},
	} {
		m := api.Module{Defs: list(api.Def{Body: api.Expr{Cases: list(api.Case{Pattern: p})}})}
		if got, want := view.Move(m, 2).Defs[0].Body.Cases[0].Pattern.Span.From, p.Span.From+2; got != want {
			t.Errorf("a Pattern with a %s is moved to %d, not %d", what, got, want)
		}
	}
	for what, w := range map[string]api.Written{
		"Kind":   {Kind: api.WtFn},
		"Module": {Module: api.Name{Text: "m"}},
		"Name":   {Name: api.Name{Span: api.Span{To: 1}}},
		"Args":   {Args: make([]api.Written, 1)},
		"Span":   {Span: api.Span{From: -2, To: -2}},
	} {
		m := api.Module{Defs: list(api.Def{Result: w})}
		if got, want := view.Move(m, 2).Defs[0].Result.Span.From, w.Span.From+2; got != want {
			t.Errorf("a Written with a %s is moved to %d, not %d", what, got, want)
		}
	}
	last := api.Module{Imports: list(api.Name{Text: "a", Span: api.Span{From: math.MaxInt, To: math.MinInt}})}
	if got := view.Move(last, 1).Imports[0].Span; got != (api.Span{From: math.MinInt, To: math.MinInt + 1}) {
		t.Errorf("beyond the greatest number: %v", got)
	}
	if got := view.Move(last, -1).Imports[0].Span; got != (api.Span{From: math.MaxInt - 1, To: math.MaxInt}) {
		t.Errorf("beyond the least number: %v", got)
	}
	if got := view.Move(api.Module{}, 5); !isSame(got, api.Module{}) {
		t.Errorf("an empty module: %s", show(got))
	}
	if got := view.Bare(api.Module{}); !isSame(got, api.Module{}) {
		t.Errorf("an empty module: %s", show(got))
	}
}

// P8.4, P8.5: any modules, against the models.
func TestAnyModules(t *testing.T) {
	some := 0
	someModules(4000, func(r *rand.Rand, m api.Module) {
		by := list(0, 1, -1, 5, math.MaxInt, math.MinInt)[r.Intn(6)]
		if got, want := view.Move(m, by), modelMove(m, moved(by)); !isSame(got, want) {
			t.Errorf("%#v moved by %d is\n%#v, not\n%#v", m, by, got, want)
		}
		if got, want := view.Bare(m), modelMove(m, bare); !isSame(got, want) {
			t.Errorf("%#v bare is\n%#v, not\n%#v", m, got, want)
		}
		got, want := view.Names(m), modelNames(m)
		if !slices.Equal(got, want) {
			t.Errorf("Names of %#v:\n%v, not\n%v", m, got, want)
		}
		some += len(want)
	})
	if some < 20000 {
		t.Errorf("there are only %d names", some)
	}
}

// P8.4: modules are the same if all that is in them is, and empty lists are nil ones.
func TestSame(t *testing.T) {
	same, other := 0, 0
	var before []api.Module
	someModules(3000, func(r *rand.Rand, m api.Module) {
		if !view.Same(m, m) || !view.Same(m, copyOf(m)) || !view.Same(copyOf(m), m) {
			t.Errorf("%#v is not the same as it is", m)
		}
		before = append(before, m)
		n := before[r.Intn(len(before))]
		if got, want := view.Same(m, n), isSame(m, n); got != want {
			t.Errorf("Same of %#v and %#v: %t", m, n, got)
		}
		changed := copyOf(m)
		changeOne(r, reflect.ValueOf(&changed).Elem())
		want := isSame(m, changed)
		if got, back := view.Same(m, changed), view.Same(changed, m); got != want || back != want {
			t.Errorf("Same of %#v and %#v: %t, %t, not %t", m, changed, got, back, want)
		}
		if want {
			same++
		} else {
			other++
		}
	})
	if other < 1500 {
		t.Errorf("%d are the same, %d are not", same, other)
	}
}

// changeOne changes one thing in a value: a number, a string, or the length of a list.
func changeOne(r *rand.Rand, v reflect.Value) {
	switch v.Kind() {
	case reflect.Struct:
		changeOne(r, v.Field(r.Intn(v.NumField())))
	case reflect.Slice:
		switch {
		case v.Len() > 0 && r.Intn(8) > 0:
			changeOne(r, v.Index(r.Intn(v.Len())))
		case v.Len() > 0 && r.Intn(2) == 0:
			v.Set(v.Slice(0, v.Len()-1))
		default:
			v.Set(reflect.Append(v, reflect.Zero(v.Type().Elem())))
		}
	case reflect.String:
		v.SetString(v.String() + "x")
	default:
		v.SetInt(v.Int() + 1)
	}
}

// P8.4: each field has its say, and an element more.
func TestSameFields(t *testing.T) {
	full := reflect.New(reflect.TypeFor[api.Module]()).Elem()
	fillAll(full, 3)
	m := full.Interface().(api.Module)
	count := 0
	var each func(v reflect.Value, path string)
	each = func(v reflect.Value, path string) {
		kept := reflect.New(v.Type()).Elem()
		kept.Set(v)
		differ := func(what string) {
			count++
			changed := full.Interface().(api.Module)
			if view.Same(m, changed) || view.Same(changed, m) {
				t.Errorf("%s %s makes no difference", path, what)
			}
			v.Set(kept)
		}
		switch v.Kind() {
		case reflect.Struct:
			for i := range v.NumField() {
				each(v.Field(i), path+"."+v.Type().Field(i).Name)
			}
		case reflect.Slice:
			v.Set(reflect.Append(v, reflect.Zero(v.Type().Elem())))
			differ("and a zero element")
			if v.Len() > 0 {
				v.Set(v.Slice(0, 0))
				differ("without its elements")
			}
			for i := range v.Len() {
				each(v.Index(i), fmt.Sprintf("%s[%d]", path, i))
			}
		case reflect.String:
			v.SetString("other")
			differ("of another string")
		default:
			v.SetInt(99)
			differ("of another number")
		}
	}
	m = copyOf(m)
	each(full, "")
	if count < 300 || !view.Same(m, full.Interface().(api.Module)) {
		t.Errorf("%d changes, and at the end %t", count, view.Same(m, full.Interface().(api.Module)))
	}
	if !view.Same(api.Module{}, api.Module{Imports: []api.Name{}, Types: []api.TypeDef{}, Defs: []api.Def{}}) {
		t.Error("empty lists are not nil ones")
	}
}

// fillAll fills a value with things that are not zero, as deep as most levels of lists.
func fillAll(v reflect.Value, most int) {
	switch v.Kind() {
	case reflect.Struct:
		for i := range v.NumField() {
			fillAll(v.Field(i), most)
		}
	case reflect.Slice:
		if most > 0 {
			v.Set(reflect.MakeSlice(v.Type(), 1, 1))
			fillAll(v.Index(0), most-1)
		}
	case reflect.String:
		v.SetString("a")
	default:
		v.SetInt(1)
	}
}

// P8.5: names that are defined, bound and used come in the order of their spans; signs and what is missing do not.
func TestNames(t *testing.T) {
	for _, c := range [][2]string{
		{"", ""},
		{"import b; import a; import ;", "b@7 a@17"},
		{"type T[a, b] = A(m.B[a], (b) -> c) | C;", "T@5 a@7 b@10 A@15 m@17 B@19 a@21 b@26 c@32 C@37"},
		{"def f(x: T[y], z): m.U = x + -z.w * m.V == !Z(x);", "f@4 x@6 T@9 y@11 z@15 m@19 U@21 x@25 z@30 w@32 m@36 V@38 Z@44 x@46"},
		{"def f() = let x = y in fn(a: T, b) => if a then b else c;", "f@4 x@14 y@18 a@26 T@29 b@32 a@41 b@48 c@55"},
		{"def f() = match x { A(y, _, m.B(-1, \"t\")) => true, _ => z, _w => 1 };", "f@4 x@16 A@20 y@22 m@28 B@30 z@56 _w@59"},
		{"def b() = 1; type A = B; import c; def a() = 1;", "b@4 A@18 B@22 c@32 a@39"},
		{"def = x.; type = m. | B(); def g( , ) = - ; def (: a) = _(_);", "x@6 g@31 a@51"},
		{"x; def f() = 1; y", "f@7"},
	} {
		if got := join(view.Names(said(t, c[0])), showName); got != c[1] {
			t.Errorf("Names of %q: %s, not %s", c[0], got, c[1])
		}
	}
	text := "def f(x) = " + strings.Repeat("x + ", 4000) + "x;"
	if names := view.Names(said(t, text)); len(names) != 4003 || !slices.Equal(names, modelNames(said(t, text))) {
		t.Errorf("a long sum has %d names", len(names))
	}
}

// P8.4, P8.5: as many levels as the bounds of the document let in.
func TestDeep(t *testing.T) {
	e := api.Expr{Kind: api.ExName, Name: api.Name{Text: "x", Span: api.Span{From: 3, To: 4}}}
	p := api.Pattern{Kind: api.PtName, Name: api.Name{Text: "y", Span: api.Span{To: 1}}}
	w := api.Written{Kind: api.WtVar, Name: api.Name{Text: "z", Span: api.Span{From: 1, To: 2}}}
	for range 1<<16 - 10 {
		e = api.Expr{Kind: api.ExUnary, Kids: list(e), Span: api.Span{From: 2, To: 5}}
		p = api.Pattern{Kind: api.PtMake, Kids: list(p)}
		w = api.Written{Kind: api.WtName, Args: list(w)}
	}
	m := api.Module{Defs: list(api.Def{Result: w, Body: api.Expr{Cases: list(api.Case{Pattern: p, Body: e})}})}
	if got := view.Names(m); join(got, showName) != `y@0 z@1 x@3` {
		t.Errorf("names of what is deep: %s", join(got, showName))
	}
	if back := view.Move(view.Move(m, 1), -1); !view.Same(back, m) || view.Same(view.Move(m, 1), m) {
		t.Error("what is deep is another when it is moved there and back")
	}
	if got := view.Bare(m); !view.Same(view.Bare(view.Move(m, 7)), got) || view.Same(got, m) {
		t.Error("what is deep is not the same bare")
	}
}
