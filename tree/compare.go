package tree

import (
	"slices"
	"strconv"
	"strings"

	"marginalia/api"
)

// maxLevels is how deep Same goes: the document promises nothing of Nodes that are deeper, and a Node that holds itself has no end.
const maxLevels = 1 << 16

// Same reports whether two Nodes are the same.
func Same(a, b api.Node) bool {
	return sameTo(maxLevels, a, b)
}

// sameTo reports whether two Nodes are the same, and no deeper than a number of levels.
func sameTo(levels int, a, b api.Node) bool {
	return levels >= 0 && isAlike(a, b) && slices.EqualFunc(a.Kids, b.Kids, func(a, b api.Node) bool {
		return sameTo(levels-1, a, b)
	})
}

// isAlike reports whether two Nodes are the same but for what their kids are.
func isAlike(a, b api.Node) bool {
	return a.Kind == b.Kind && a.Token == b.Token && len(a.Kids) == len(b.Kids)
}

// clone returns the same Node in new memory.
func clone(n api.Node) api.Node {
	made := n
	made.Kids = nil
	for _, kid := range n.Kids {
		made.Kids = append(made.Kids, clone(kid))
	}
	return made
}

// Put returns a tree with another Node at a position.
func Put(n api.Node, position []int, by api.Node) (api.Node, api.Errno) {
	if !IsFormed(by) {
		return api.Node{}, api.ErrForm
	}
	if _, _, e := goTo(n, position); e != api.OK {
		return api.Node{}, e
	}
	made := clone(n)
	part := &made
	for _, index := range position {
		part = &part.Kids[index]
	}
	*part = clone(by)
	if !IsFormed(made) {
		return api.Node{}, api.ErrForm
	}
	return made, api.OK
}

// Shared returns how many different Nodes there are among the nodes and leaves of trees.
func Shared(l []api.Node) (int, api.Errno) {
	if len(l) > api.MaxModules {
		return 0, api.ErrLimit
	}
	for _, n := range l {
		if !IsFormed(n) {
			return 0, api.ErrForm
		}
	}
	numbers := map[string]int{}
	for _, n := range l {
		number(n, numbers)
	}
	return len(numbers), api.OK
}

// number gives a Node, and all that are in it, numbers: the same ones to those that are the same. So the kids' numbers stand for the kids, and what is written of a Node is short however much is in it.
func number(n api.Node, numbers map[string]int) int {
	var written strings.Builder
	written.WriteString(strconv.Itoa(n.Kind))
	for _, kid := range n.Kids {
		written.WriteByte(' ')
		written.WriteString(strconv.Itoa(number(kid, numbers)))
	}
	if n.Kind == api.NdToken {
		written.WriteByte(' ')
		written.WriteString(strconv.Itoa(n.Token.Kind))
		written.WriteString(n.Token.Text)
	}
	key := written.String()
	own, met := numbers[key]
	if !met {
		own = len(numbers)
		numbers[key] = own
	}
	return own
}

// Changed returns the deepest position at which alone two trees differ, and whether they do.
func Changed(old, new api.Node) ([]int, bool, api.Errno) {
	if !IsFormed(old) || !IsFormed(new) {
		return nil, false, api.ErrForm
	}
	position, differ := changed(old, new)
	return position, differ, api.OK
}

// changed goes down into a kid if it is the only one that differs.
func changed(old, made api.Node) (position []int, differ bool) {
	if !isAlike(old, made) {
		return nil, true
	}
	for i := range old.Kids {
		below, kidsDiffer := changed(old.Kids[i], made.Kids[i])
		if !kidsDiffer {
			continue
		}
		if differ {
			return nil, true
		}
		position, differ = append([]int{i}, below...), true
	}
	return position, differ
}
