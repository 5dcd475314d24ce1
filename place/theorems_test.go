package place_test

import (
	"cmp"
	"math"
	"math/rand"
	"testing"

	"marginalia/api"
	"marginalia/place"
	"marginalia/rope"
)

// P2.1, P2.2 and P2.5: all offsets and all places of all short strings.
func TestThereAndBack(t *testing.T) {
	forTexts(func(text string) { checkPlaces(t, text) })
	r := rand.New(rand.NewSource(4))
	for range 2000 {
		checkPlaces(t, randomText(r, 12))
	}
}

func checkPlaces(t *testing.T, text string) {
	t.Helper()
	want := modelPlaces(text)
	offsets := map[api.Place]int{}
	widest := 0
	for offset, p := range want {
		got, e := place.Of(text, offset)
		if p == inside {
			if got != (api.Place{}) || e != api.ErrArg {
				t.Fatalf("Of(%q, %d) = %v, %d: it is inside of a character", text, offset, got, e)
			}
			continue
		}
		if got != p || e != api.OK {
			t.Fatalf("Of(%q, %d) = %v, %d, not %v", text, offset, got, e, p)
		}
		offsets[p] = offset
		widest = max(widest, p.Column)
	}
	for line := -1; line <= want[len(text)].Line+1; line++ {
		for column := -1; column <= widest+1; column++ {
			checkOffset(t, text, want, offsets, at(line, column))
		}
		checkOffset(t, text, want, offsets, at(line, math.MaxInt))
		checkOffset(t, text, want, offsets, at(line, math.MinInt))
	}
}

func checkOffset(t *testing.T, text string, places []api.Place, offsets map[api.Place]int, p api.Place) {
	t.Helper()
	near, e := place.Near(text, p)
	if near != modelNear(places, p) || e != api.OK {
		t.Fatalf("Near(%q, %v) = %d, %d, not %d", text, p, near, e, modelNear(places, p))
	}
	got, e := place.Offset(text, p)
	want, ok := offsets[p]
	if !ok {
		if got != 0 || e != api.ErrArg {
			t.Fatalf("Offset(%q, %v) = %d, %d: there is not one", text, p, got, e)
		}
		return
	}
	if got != want || near != want || e != api.OK {
		t.Fatalf("Offset(%q, %v) = %d, %d, Near %d, not %d", text, p, got, e, near, want)
	}
	if back, e := place.Of(text, got); back != p || e != api.OK {
		t.Fatalf("Of(%q, Offset of %v) = %v, %d", text, p, back, e)
	}
}

// P2.3, P2.6 and P2.7.
func TestOrderAndLines(t *testing.T) {
	check := func(text string) {
		checkOrder(t, text)
		checkWidth(t, text)
		checkLines(t, text)
	}
	forTexts(check)
	r := rand.New(rand.NewSource(5))
	for range 2000 {
		check(randomText(r, 20))
	}
}

func checkOrder(t *testing.T, text string) {
	t.Helper()
	last := inside
	for offset := range len(text) + 1 {
		p, e := place.Of(text, offset)
		if e != api.OK {
			continue
		}
		if cmp.Or(cmp.Compare(last.Line, p.Line), cmp.Compare(last.Column, p.Column)) >= 0 {
			t.Fatalf("Of(%q, %d) = %v, not after %v", text, offset, p, last)
		}
		last = p
	}
}

func checkWidth(t *testing.T, text string) {
	t.Helper()
	spans, _ := place.Lines(text)
	sum := len(spans) - 1
	for _, s := range spans {
		p, e := place.Of(text, s.To)
		if e != api.OK {
			t.Fatalf("Of(%q, %d): %d, at the end of a line", text, s.To, e)
		}
		sum += p.Column
	}
	want := 0
	for rest := text; rest != ""; {
		size, width := modelCharacter(rest)
		want += width
		rest = rest[size:]
	}
	if width, e := place.Width(text); width != sum || width != want || e != api.OK {
		t.Fatalf("Width(%q) = %d, %d, not %d, and %d by its lines", text, width, e, want, sum)
	}
}

func checkLines(t *testing.T, text string) {
	t.Helper()
	spans, e := place.Lines(text)
	r, _ := rope.New(text)
	if e != api.OK || len(spans) != r.Lines() {
		t.Fatalf("Lines(%q) = %v, %d: a rope has %d", text, spans, e, r.Lines())
	}
	whole := ""
	for n, s := range spans {
		if line, e := r.Line(n); line != s || e != api.OK {
			t.Fatalf("Lines(%q) = %v: line %d of a rope is %v", text, spans, n, line)
		}
		if n > 0 {
			whole += "\n"
		}
		whole += text[s.From:s.To]
	}
	if whole != text {
		t.Fatalf("Lines(%q) = %v: the lines are %q", text, spans, whole)
	}
}
