package rope

import (
	"strings"

	"marginalia/api"
)

// piece is a node of a balanced tree of strings: a leaf has a text, which is not empty, any other node two parts whose heights differ by one at most.
// A tree without any byte is nil. No node is changed once it is made: that is why ropes can share them.
type piece struct {
	text        string
	left, right *piece
	total       sums
}

// sums are what a tree has in all.
type sums struct{ size, feeds, leaves, height int }

func (p *piece) sums() sums {
	if p == nil {
		return sums{}
	}
	return p.total
}

func (p *piece) isLeaf() bool { return p.left == nil }

func leaf(text string) *piece {
	if text == "" {
		return nil
	}
	total := sums{size: len(text), leaves: 1, height: 1}
	for i := range len(text) {
		if text[i] == '\n' {
			total.feeds++
		}
	}
	return &piece{text: text, total: total}
}

func pair(left, right *piece) *piece {
	l, r := left.total, right.total
	total := sums{
		size:   l.size + r.size,
		feeds:  l.feeds + r.feeds,
		leaves: l.leaves + r.leaves,
		height: max(l.height, r.height) + 1,
	}
	return &piece{left: left, right: right, total: total}
}

// join returns the tree of the bytes of left and then those of right.
func join(left, right *piece) *piece {
	switch {
	case left == nil:
		return right
	case right == nil:
		return left
	case left.total.height > right.total.height+1:
		return balance(left.left, join(left.right, right))
	case right.total.height > left.total.height+1:
		return balance(join(left, right.left), right.right)
	}
	return pair(left, right)
}

// balance is pair for two trees whose heights differ by two at most, as they may after a join of one of them with a lower tree.
func balance(left, right *piece) *piece {
	switch {
	case left.total.height > right.total.height+1:
		l, r := left.left, left.right
		if l.total.height >= r.total.height {
			return pair(l, pair(r, right))
		}
		return pair(pair(l, r.left), pair(r.right, right))
	case right.total.height > left.total.height+1:
		l, r := right.left, right.right
		if r.total.height >= l.total.height {
			return pair(pair(left, l), r)
		}
		return pair(pair(left, l.left), pair(l.right, r))
	}
	return pair(left, right)
}

// split returns the trees of the bytes before an offset and of those from it on.
func (p *piece) split(at int) (*piece, *piece) {
	switch {
	case at == 0:
		return nil, p
	case at == p.total.size:
		return p, nil
	case p.isLeaf():
		return leaf(p.text[:at]), leaf(p.text[at:])
	case at < p.left.total.size:
		before, after := p.left.split(at)
		return before, join(after, p.right)
	}
	before, after := p.right.split(at - p.left.total.size)
	return join(p.left, before), after
}

// slice returns the bytes of a span of the tree.
func (p *piece) slice(s api.Span) string {
	var b strings.Builder
	p.write(&b, s.From, s.To)
	return b.String()
}

// write writes the bytes from one offset to another, as far as the tree has them.
func (p *piece) write(b *strings.Builder, from, to int) {
	from, to = max(from, 0), min(to, p.sums().size)
	if from >= to {
		return
	}
	if p.isLeaf() {
		b.WriteString(p.text[from:to])
		return
	}
	middle := p.left.total.size
	p.left.write(b, from, to)
	p.right.write(b, from-middle, to-middle)
}

// feed returns the offset of a line feed that the tree has: the first one has the number 0.
func (p *piece) feed(number int) int {
	if p.isLeaf() {
		return feedOf(p.text, number)
	}
	if number < p.left.total.feeds {
		return p.left.feed(number)
	}
	return p.left.total.size + p.right.feed(number-p.left.total.feeds)
}

func feedOf(text string, number int) int {
	for i := range len(text) {
		if text[i] != '\n' {
			continue
		}
		if number == 0 {
			return i
		}
		number--
	}
	return len(text)
}
