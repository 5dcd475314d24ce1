package rope

import (
	"math/rand"
	"strings"
	"testing"

	"marginalia/api"
)

// checkPieces checks a tree's sums and balance, and adds its nodes to seen: it returns how many were not there.
func checkPieces(t *testing.T, p *piece, seen map[*piece]bool) int {
	t.Helper()
	if p == nil || seen[p] {
		return 0
	}
	seen[p] = true
	if p.isLeaf() {
		want := sums{size: len(p.text), feeds: strings.Count(p.text, "\n"), leaves: 1, height: 1}
		if p.text == "" || p.right != nil || p.total != want {
			t.Fatalf("a leaf %q has %v", p.text, p.total)
		}
		return 1
	}
	added := 1 + checkPieces(t, p.left, seen) + checkPieces(t, p.right, seen)
	l, r := p.left.total, p.right.total
	want := sums{l.size + r.size, l.feeds + r.feeds, l.leaves + r.leaves, max(l.height, r.height) + 1}
	if p.total != want || p.text != "" {
		t.Fatalf("a node of %v and %v has %v", l, r, p.total)
	}
	if l.height > r.height+1 || r.height > l.height+1 {
		t.Fatalf("parts of the heights %d and %d", l.height, r.height)
	}
	return added
}

// P1.6: what an edit does not touch is not made again, however long the rope and whatever edits came before.
func TestSharing(t *testing.T) {
	for _, place := range []func(r *rand.Rand, length int) int{
		func(r *rand.Rand, length int) int { return r.Intn(length + 1) },
		func(r *rand.Rand, length int) int { return length },
		func(r *rand.Rand, length int) int { return 0 },
		func(r *rand.Rand, length int) int { return length / 2 },
	} {
		r := rand.New(rand.NewSource(5))
		last, _ := New("one\ntwo\n")
		seen := map[*piece]bool{}
		checkPieces(t, last.root, seen)
		for range 3000 {
			from := place(r, last.Len())
			next, e := last.Edit([]api.Edit{{From: from, To: min(from+r.Intn(3), last.Len()), New: "x\ny"[r.Intn(3):]}})
			if e != api.OK {
				t.Fatal(e)
			}
			if added := checkPieces(t, next.root, seen); added > 100 {
				t.Fatalf("an edit makes %d nodes in a rope of %d pieces", added, next.Pieces())
			}
			last = next
		}
		if last.Pieces() < 1000 {
			t.Fatalf("only %d pieces", last.Pieces())
		}
	}
}
