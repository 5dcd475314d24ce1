package tree

import (
	"iter"

	"marginalia/api"
)

// walk yields all leaves and nodes of a Node with their positions, in the positions' order. It goes down by lists, not by calls: a Node that is too deep, or that holds itself, can be left before it is through. A position is not to be kept, as it becomes the next one.
func walk(n api.Node) iter.Seq2[[]int, api.Node] {
	return func(yield func(position []int, part api.Node) bool) {
		var position []int
		path := []api.Node{n}
	next:
		for yield(position, path[len(position)]) {
			position = append(position, -1)
			for depth := len(position) - 1; depth >= 0; depth-- {
				position = position[:depth+1]
				position[depth]++
				if kids := path[depth].Kids; position[depth] < len(kids) {
					path = append(path[:depth+1], kids[position[depth]])
					continue next
				}
			}
			return
		}
	}
}

// leaves yields the tokens of all leaves, in order.
func leaves(n api.Node) iter.Seq[api.Token] {
	return func(yield func(t api.Token) bool) {
		for _, part := range walk(n) {
			if part.Kind == api.NdToken && !yield(part.Token) {
				return
			}
		}
	}
}

func width(n api.Node) int {
	size := 0
	for t := range leaves(n) {
		size += len(t.Text)
	}
	return size
}
