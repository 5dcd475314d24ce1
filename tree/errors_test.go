package tree_test

import (
	"slices"
	"testing"

	"marginalia/api"
	"marginalia/tree"
)

// refuses holds that all functions that are given one tree return ErrForm and nothing else, whatever their other arguments are.
func refuses(t *testing.T, what string, n api.Node) {
	t.Helper()
	none := show(api.Node{})
	hold := func(function string, isZero bool, e api.Errno) {
		t.Helper()
		if !isZero || e != api.ErrForm {
			t.Errorf("%s of %s: %d, or a result", function, what, e)
		}
	}
	text, e := tree.Text(n)
	hold("Text", text == "", e)
	width, e := tree.Width(n)
	hold("Width", width == 0, e)
	leaves, e := tree.Leaves(n)
	hold("Leaves", len(leaves) == 0, e)
	count, depth, e := tree.Count(n)
	hold("Count", count == 0 && depth == 0, e)
	all, e := tree.All(n, api.NdToken)
	hold("All", len(all) == 0, e)
	shared, e := tree.Shared(list(name("a"), n))
	hold("Shared", shared == 0, e)
	for _, position := range [][]int{nil, {0}, {-1}} {
		at, e := tree.At(n, position)
		hold("At", show(at) == none, e)
		span, e := tree.Span(n, position)
		hold("Span", span == api.Span{}, e)
		core, e := tree.Core(n, position)
		hold("Core", core == api.Span{}, e)
		put, e := tree.Put(n, position, name("a"))
		hold("Put", show(put) == none, e)
		put, e = tree.Put(example(), position, n)
		hold("Put in place of a part", show(put) == none, e)
	}
	for _, offset := range list(0, -1) {
		find, e := tree.Find(n, offset)
		hold("Find", len(find) == 0, e)
		cover, e := tree.Cover(n, api.Span{From: offset})
		hold("Cover", len(cover) == 0, e)
	}
	for _, pair := range [][2]api.Node{{n, name("a")}, {name("a"), n}, {n, n}} {
		changed, differ, e := tree.Changed(pair[0], pair[1])
		hold("Changed", len(changed) == 0 && !differ, e)
	}
}

// P5.2 to P5.7: ErrForm comes first, of a wrong position, offset or span, too.
func TestErrForm(t *testing.T) {
	for what, n := range broken() {
		refuses(t, what, n)
	}
}

// P5.5: of Put's errors, those of both Nodes come before that of the position, and that before that of the result.
func TestPutErrors(t *testing.T) {
	full := file(leavesOf(api.MaxTokens)...)
	for _, c := range []struct {
		what     string
		position []int
		by       api.Node
		want     api.Errno
	}{
		{"nothing at the position, and a Node that is not formed", list(api.MaxTokens), api.Node{}, api.ErrForm},
		{"nothing at the position, and too many leaves", list(api.MaxTokens), full, api.ErrArg},
		{"nothing at the position", list(0, 0), name("a"), api.ErrArg},
		{"an index below 0", list(-1), name("a"), api.ErrArg},
		{"too many leaves", list(0), full, api.ErrForm},
	} {
		if got, e := tree.Put(full, c.position, c.by); show(got) != show(api.Node{}) || e != c.want {
			t.Errorf("Put with %s: %d, not %d", c.what, e, c.want)
		}
	}
}

// P5.6: that there are too many trees comes before what they are.
func TestSharedErrors(t *testing.T) {
	for _, c := range []struct {
		what string
		l    []api.Node
		want api.Errno
	}{
		{"as many trees as there may be", slices.Repeat(list(name("a")), api.MaxModules), api.OK},
		{"one tree too many", slices.Repeat(list(name("a")), api.MaxModules+1), api.ErrLimit},
		{"one too many that are not formed", make([]api.Node, api.MaxModules+1), api.ErrLimit},
		{"as many that are not formed", make([]api.Node, api.MaxModules), api.ErrForm},
		{"a last one that is not formed", append(slices.Repeat(list(name("a")), api.MaxModules-1), api.Node{}), api.ErrForm},
	} {
		if got, e := tree.Shared(c.l); (got > 0) != (c.want == api.OK) || e != c.want {
			t.Errorf("Shared of %s: %d, %d, not %d", c.what, got, e, c.want)
		}
	}
}
