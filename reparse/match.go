package reparse

import (
	"math/bits"
	"slices"

	"marginalia/api"
	"marginalia/parse"
	"marginalia/tree"
)

// Match returns pairs of indexes of parts of two trees that are the same: the first one of the longest lists of pairs that rise.
func Match(old, new api.Node) ([][2]int, api.Errno) {
	if !parse.IsTree(old) || !parse.IsTree(new) {
		return nil, api.ErrForm
	}
	olds, news := newSource(old).parts, newSource(new).parts
	met := numbers{byText: map[string][]numbered{}}
	var pairs [][2]int
	for _, pair := range longest(met.all(olds), met.all(news)) {
		pairs = append(pairs, [2]int{olds[pair[0]].index, news[pair[1]].index})
	}
	return pairs, api.OK
}

// numbers gives parts numbers, those that are the same the same one. Parts with the same string may differ: where they are too deep, they hang on the next token, too.
type numbers struct {
	byText map[string][]numbered
	count  int
}

type numbered struct {
	node   api.Node
	number int
}

func (n *numbers) all(parts []part) []int {
	var all []int
	for _, p := range parts {
		all = append(all, n.of(p.node))
	}
	return all
}

// of returns the number of a part, a new one if none is the same.
func (n *numbers) of(node api.Node) int {
	text, _ := tree.Text(node)
	for _, other := range n.byText[text] {
		if tree.Same(node, other.node) {
			return other.number
		}
	}
	n.byText[text] = append(n.byText[text], numbered{node, n.count})
	n.count++
	return n.count - 1
}

// longest returns the pairs of places with the same number in two lists, for the first one of the longest lists of pairs that rise.
func longest(olds, news []int) [][2]int {
	t := newTable(olds, news)
	var pairs [][2]int
	begin, left := 0, t.most(0, 0)
	for i, number := range olds {
		// The first one of the new places leaves most to what comes after: if no longest list goes on with it, none goes on with another one.
		at, isThere := t.next(number, begin)
		if isThere && t.most(i+1, at+1) == left-1 {
			pairs = append(pairs, [2]int{i, at})
			begin = at + 1
			left--
		}
	}
	return pairs
}

// table says how many pairs there can be of the olds from a place on and the news from a place on. A new place more lets at most one pair more be: so a row of the table, for one old place and all new ones, is a list of bits, from the last new place down to the first one, in which 0 stands for one pair more. This works out 64 new places at once.
type table struct {
	size   int           // how many new places there are
	places map[int][]int // of a number, the new places that have it
	rows   [][]uint64
}

func newTable(olds, news []int) *table {
	t := &table{size: len(news), places: map[int][]int{}, rows: make([][]uint64, len(olds)+1)}
	for i, number := range news {
		t.places[number] = append(t.places[number], i)
	}
	words := t.size/64 + 1
	row := slices.Repeat([]uint64{1<<64 - 1}, words)
	t.rows[len(olds)] = row
	masks := map[int][]uint64{}
	for i, number := range slices.Backward(olds) {
		mask, made := masks[number]
		if !made {
			mask = t.mask(number, words)
			masks[number] = mask
		}
		row = before(row, mask)
		t.rows[i] = row
	}
	return t
}

// bit returns where the bit of a new place is in a row.
func (t *table) bit(place int) (word, shift int) {
	down := t.size - 1 - place
	return down / 64, down % 64
}

// mask returns a row with the bits of the new places that have a number.
func (t *table) mask(number, words int) []uint64 {
	mask := make([]uint64, words)
	for _, place := range t.places[number] {
		word, shift := t.bit(place)
		mask[word] |= 1 << shift
	}
	return mask
}

// before returns the row of the old place before that of a row; mask has the new places that are the same as it. If there are such places between two bits that are 0, the upper 0 moves down to the lowest of them; if there are any above the last 0, the lowest of them becomes a 0, too. The sum does both: it carries the lowest place up to the next 0, and what it clears between them is put back.
func before(row, mask []uint64) []uint64 {
	made := make([]uint64, len(row))
	carry := uint64(0)
	for i, word := range row {
		sum, over := bits.Add64(word, word&mask[i], carry)
		made[i] = sum | word&^mask[i]
		carry = over
	}
	return made
}

// most returns the greatest number of pairs of the olds from a place on and the news from a place on.
func (t *table) most(old, begin int) int {
	word, shift := t.bit(begin - 1)
	count := bits.OnesCount64(^t.rows[old][word] & (1<<shift - 1))
	for _, whole := range t.rows[old][:word] {
		count += bits.OnesCount64(^whole)
	}
	return count
}

// next returns the first new place with a number, from a place on.
func (t *table) next(number, begin int) (place int, isThere bool) {
	places := t.places[number]
	i, _ := slices.BinarySearch(places, begin)
	if i == len(places) {
		return 0, false
	}
	return places[i], true
}
