package view_test

import (
	"reflect"
	"slices"
	"testing"

	"marginalia/api"
	"marginalia/tree"
	"marginalia/view"
)

const sample = "import m; x; // r\ntype T[a, b] = A | B(m.T[a], (Int, a) -> a);\ndef f(x, y: Int) = if !x then (1 + 2 * 3) == g(x)(y, ) else match x { A(-1, B(_)) => fn(z: T[b]) => #, _ => let v = w in \"t\" "

// overwrite puts another thing in place of each element of all lists in a value, and of what is behind them.
func overwrite(v reflect.Value) {
	switch v.Kind() {
	case reflect.Struct:
		for i := range v.NumField() {
			overwrite(v.Field(i))
		}
	case reflect.Slice:
		for i := range v.Len() {
			overwrite(v.Index(i))
		}
		whole := v.Slice(0, v.Cap())
		for i := range whole.Len() {
			mark := reflect.New(v.Type().Elem()).Elem()
			fillAll(mark, 0)
			whole.Index(i).Set(mark)
		}
	}
}

func spoil(m api.Module) { overwrite(reflect.ValueOf(m)) }

// lists returns where all lists in a value have their elements.
func lists(v reflect.Value) [][2]uintptr {
	var all [][2]uintptr
	switch v.Kind() {
	case reflect.Struct:
		for i := range v.NumField() {
			all = append(all, lists(v.Field(i))...)
		}
	case reflect.Slice:
		for i := range v.Len() {
			all = append(all, lists(v.Index(i))...)
		}
		if v.Cap() > 0 {
			begin := v.Pointer()
			all = append(all, [2]uintptr{begin, begin + uintptr(v.Cap())*v.Type().Elem().Size()})
		}
	}
	return all
}

// apart holds that no two lists of modules have memory in common.
func apart(t *testing.T, what string, modules ...api.Module) {
	t.Helper()
	all := lists(reflect.ValueOf(modules))
	for i, a := range all {
		for _, b := range all[:i] {
			if a[0] < b[1] && b[0] < a[1] {
				t.Fatalf("%s: two lists share memory", what)
			}
		}
	}
}

// Rule 4: results are new memory, and arguments stay as they are.
func TestMemory(t *testing.T) {
	n, again := parsed(t, sample), parsed(t, sample)
	want, _ := modelOf(again)
	item := slices.IndexFunc(n.Kids, func(kid api.Node) bool { return kid.Kind == api.NdDef })
	of, _ := view.Of(n)
	text, _ := view.Text(sample)
	one, e := view.Item(n.Kids[item])
	if e != api.OK || len(one.Defs) != 1 {
		t.Fatalf("Item: %s, %d", show(one), e)
	}
	moved, bare := view.Move(of, 0), view.Bare(of)
	if !isSame(of, want) || !isSame(text, want) || !isSame(moved, want) {
		t.Fatalf("Of: %s\nText: %s\nmoved: %s", show(of), show(text), show(moved))
	}
	apart(t, "modules", of, text, one, moved, bare)
	names := view.Names(of)
	notes, _ := view.Numbers(n)
	for _, m := range []api.Module{moved, bare, one, text} {
		spoil(m)
	}
	clear(names[:cap(names)])
	clear(notes[:cap(notes)])
	if !isSame(of, want) || !tree.Same(n, again) {
		t.Errorf("what was handed in is changed: %s", show(of))
	}
	spoil(of)
	if m, e := view.Of(n); !isSame(m, want) || e != api.OK {
		t.Errorf("Of again: %s, %d", show(m), e)
	}
	if m, e := view.Text(sample); !isSame(m, want) || e != api.OK {
		t.Errorf("Text again: %s, %d", show(m), e)
	}
}

// Rule 4: Move, Bare and Names neither change a module of any things, nor keep it.
func TestMemoryOfAny(t *testing.T) {
	m := api.Module{}
	fillAll(reflect.ValueOf(&m).Elem(), 4)
	want := copyOf(m)
	moved, bare, names := view.Move(m, 3), view.Bare(m), view.Names(m)
	apart(t, "modules of any things", m, moved, bare)
	wantMoved, wantBare, wantNames := copyOf(moved), copyOf(bare), len(names)
	if !isSame(m, want) || !view.Same(m, m) {
		t.Errorf("a module is changed: %#v", m)
	}
	spoil(m)
	if !isSame(moved, wantMoved) || !isSame(bare, wantBare) || len(names) != wantNames || names[0].Text != "a" {
		t.Error("a result hangs on what was handed in")
	}
}
