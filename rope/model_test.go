package rope_test

import (
	"math/rand"
	"slices"
	"testing"

	"marginalia/api"
	"marginalia/rope"
)

// The models say again, in the plainest way, what the document says: the tests hold the package against them.

// modelApply does the edits from the last one to the first one, so that none of them moves another one.
func modelApply(text string, edits []api.Edit) string {
	for _, e := range slices.Backward(edits) {
		text = text[:e.From] + e.New + text[e.To:]
	}
	return text
}

type point struct {
	offset int
	after  bool
}

// modelMoves goes once through the old string and the new one together, and notes where each offset is.
func modelMoves(length int, edits []api.Edit) map[point]int {
	moves := map[point]int{}
	at, next := 0, 0
	for o := 0; o <= length; o++ {
		moves[point{o, false}] = at
		for next < len(edits) && edits[next].From == o && edits[next].To == o {
			at += len(edits[next].New)
			next++
		}
		moves[point{o, true}] = at
		if next == len(edits) || edits[next].From != o {
			at++
			continue
		}
		at += len(edits[next].New)
		for ; o+1 < edits[next].To; o++ {
			moves[point{o + 1, false}], moves[point{o + 1, true}] = at, at
		}
		next++
	}
	return moves
}

// side is an edit of one of the two lists that are merged.
type side struct {
	second bool
	edit   api.Edit
	span   api.Span // in the string between
}

func modelSides(first, second []api.Edit) []side {
	var sides []side
	shift := 0
	for _, e := range first {
		sides = append(sides, side{false, e, api.Span{From: e.From + shift, To: e.From + shift + len(e.New)}})
		shift += len(e.New) - (e.To - e.From)
	}
	for _, e := range second {
		sides = append(sides, side{true, e, api.Span{From: e.From, To: e.To}})
	}
	return sides
}

// modelGroups puts those together that touch one another, directly or by others: each gets the least index in its group.
func modelGroups(sides []side) map[int][]side {
	group := make([]int, len(sides))
	for i := range group {
		group[i] = i
	}
	for range sides {
		for i, a := range sides {
			for j, b := range sides {
				if a.second != b.second && !(a.span.To < b.span.From) && !(b.span.To < a.span.From) {
					group[i] = min(group[i], group[j])
				}
			}
		}
	}
	groups := map[int][]side{}
	for i, s := range sides {
		groups[group[i]] = append(groups[group[i]], s)
	}
	return groups
}

// modelOld moves an offset of the string between to the old one, if it is at no edit of first.
func modelOld(sides []side, offset int) (int, bool) {
	old := offset
	for _, s := range sides {
		if s.second {
			continue
		}
		if s.span.From <= offset && offset <= s.span.To {
			return 0, false
		}
		if s.span.To < offset {
			old -= len(s.edit.New) - (s.edit.To - s.edit.From)
		}
	}
	return old, true
}

func modelMerge(text string, first, second []api.Edit) []api.Edit {
	sides := modelSides(first, second)
	last := modelApply(modelApply(text, first), second)
	type whole struct{ between, old api.Span }
	grown := map[int]int{}
	wholes := map[int]whole{}
	groups := modelGroups(sides)
	var order []int
	for g, members := range groups {
		order = append(order, g)
		w := whole{members[0].span, api.Span{From: len(text), To: 0}}
		put := func(offset int) {
			w.old.From, w.old.To = min(w.old.From, offset), max(w.old.To, offset)
		}
		for _, m := range members {
			w.between.From, w.between.To = min(w.between.From, m.span.From), max(w.between.To, m.span.To)
			grown[g] += len(m.edit.New) - (m.edit.To - m.edit.From)
			for _, offset := range []int{m.edit.From, m.edit.To} {
				if !m.second {
					put(offset)
				} else if old, ok := modelOld(sides, offset); ok {
					put(old)
				}
			}
		}
		wholes[g] = w
	}
	slices.SortFunc(order, func(a, b int) int {
		return slices.Compare([]int{wholes[a].between.From, wholes[a].between.To, a}, []int{wholes[b].between.From, wholes[b].between.To, b})
	})
	var merged []api.Edit
	shift := 0
	for _, g := range order {
		old := wholes[g].old
		shift += grown[g]
		merged = append(merged, api.Edit{From: old.From, To: old.To, New: last[old.From+shift-grown[g] : old.To+shift]})
	}
	return merged
}

func randomText(r *rand.Rand, most int) string {
	b := make([]byte, r.Intn(most+1))
	for i := range b {
		b[i] = "ab\nc"[r.Intn(4)]
	}
	return string(b)
}

// randomEdits returns edits that often stand at one offset or touch one another.
func randomEdits(r *rand.Rand, length, most int) []api.Edit {
	count := r.Intn(most + 1)
	offsets := make([]int, 2*count)
	for i := range offsets {
		offsets[i] = r.Intn(length + 1)
	}
	slices.Sort(offsets)
	var edits []api.Edit
	for i := range count {
		from, to := offsets[2*i], offsets[2*i+1]
		if r.Intn(3) == 0 {
			to = from
		}
		edits = append(edits, api.Edit{From: from, To: to, New: randomText(r, 3)})
	}
	return edits
}

func mustApply(t *testing.T, text string, edits []api.Edit) string {
	t.Helper()
	s, e := rope.Apply(text, edits)
	if e != api.OK {
		t.Fatalf("Apply(%q, %v): error %d", text, edits, e)
	}
	return s
}

func mustNew(t *testing.T, text string) *rope.Rope {
	t.Helper()
	r, e := rope.New(text)
	if e != api.OK || r == nil {
		t.Fatalf("New of %d bytes: error %d", len(text), e)
	}
	return r
}

func mustEdit(t *testing.T, r *rope.Rope, edits ...api.Edit) *rope.Rope {
	t.Helper()
	s, e := r.Edit(edits)
	if e != api.OK || s == nil {
		t.Fatalf("Edit(%v): error %d", edits, e)
	}
	return s
}
