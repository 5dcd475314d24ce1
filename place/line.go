package place

import (
	"strings"
	"unicode/utf8"

	"marginalia/api"
)

// lineEnd returns where the line ends that begins at an offset.
func lineEnd(text string, from int) int {
	size := strings.IndexByte(text[from:], '\n')
	if size < 0 {
		return len(text)
	}
	return from + size
}

func lines(text string) []api.Span {
	spans := make([]api.Span, 0, strings.Count(text, "\n")+1)
	from := 0
	for {
		to := lineEnd(text, from)
		spans = append(spans, api.Span{From: from, To: to})
		if to == len(text) {
			return spans
		}
		from = to + 1
	}
}

// lineOf returns the span of a line, and whether it is there.
func lineOf(text string, number int) (api.Span, bool) {
	if number < 0 {
		return api.Span{}, false
	}
	from := 0
	for range number {
		feed := lineEnd(text, from)
		if feed == len(text) {
			return api.Span{}, false
		}
		from = feed + 1
	}
	return api.Span{From: from, To: lineEnd(text, from)}, true
}

// reach goes through the characters of a line as long as they end at a column or before it.
// It returns how many bytes these have, and the column after them.
func reach(line string, most int) (size, column int) {
	for at, c := range line {
		if column+width(c) > most {
			return at, column
		}
		column += width(c)
	}
	return len(line), column
}

// widthOf returns the sum of the widths of all characters.
// A range over a string takes a byte that belongs to no character as the chapter does: as one of its own, of width 1.
func widthOf(text string) int {
	sum := 0
	for _, c := range text {
		sum += width(c)
	}
	return sum
}

func width(c rune) int {
	if c >= 0x10000 {
		return 2
	}
	return 1
}

// begin returns the beginning of the character that an offset is inside of, or else the offset.
// No byte inside of a character begins one: so it does not matter where in the string one looks for a beginning.
func begin(text string, offset int) int {
	for back := 1; back < utf8.UTFMax && back <= offset; back++ {
		_, size := utf8.DecodeRuneInString(text[offset-back:])
		if size > back {
			return offset - back
		}
	}
	return offset
}
