package token

import (
	"strings"

	"marginalia/api"
)

// first returns the kind and the number of bytes of the first token of a string that is not empty.
func first(text string) (kind, size int) {
	switch kind = begins(text); kind {
	case api.TkBlank:
		return kind, run(text, isBlank)
	case api.TkRemark:
		return kind, run(text, isNot('\n'))
	case api.TkName:
		return nameOrWord(text)
	case api.TkInt:
		return kind, run(text, isDigit)
	case api.TkText:
		return textOrBad(text)
	case api.TkSign:
		return kind, signSize(text)
	}
	return kind, badSize(text)
}

// begins returns the kind of token that the first bytes of a string that is not empty let expect: a TkName may turn out to be a TkWord, and a TkText to be a TkBad.
func begins(text string) int {
	switch b := text[0]; {
	case isBlank(b):
		return api.TkBlank
	case strings.HasPrefix(text, "//"):
		return api.TkRemark
	case isDigit(b):
		return api.TkInt
	case isPartOfName(b):
		return api.TkName
	case b == '"':
		return api.TkText
	case signSize(text) > 0:
		return api.TkSign
	}
	return api.TkBad
}

// run returns the number of bytes of one sort with which a string begins.
func run(text string, isOfSort func(b byte) bool) int {
	size := 0
	for size < len(text) && isOfSort(text[size]) {
		size++
	}
	return size
}

func isBlank(b byte) bool { return b == ' ' || b == '\t' || b == '\n' || b == '\r' }

func isDigit(b byte) bool { return '0' <= b && b <= '9' }

func isGreat(b byte) bool { return 'A' <= b && b <= 'Z' }

func isPartOfName(b byte) bool { return 'a' <= b && b <= 'z' || isGreat(b) || isDigit(b) || b == '_' }

// isNot returns the sort of all bytes but one.
func isNot(end byte) func(b byte) bool {
	return func(b byte) bool { return b != end }
}

func nameOrWord(text string) (kind, size int) {
	size = run(text, isPartOfName)
	if isWord(text[:size]) {
		return api.TkWord, size
	}
	return api.TkName, size
}

// textOrBad scans from a quotation mark on: what does not come to a good end is bad up to the end of the line.
func textOrBad(text string) (kind, size int) {
	for at := 1; at < len(text); {
		_, step := plain(text[at:])
		if step > 0 {
			at += step
		} else if text[at] == '"' {
			return api.TkText, at + 1
		} else {
			break
		}
	}
	return api.TkBad, run(text, isNot('\n'))
}

// badSize goes on to where something else begins. A quotation mark always ends it, so that what is after the mark need not be known.
func badSize(text string) int {
	size := 1
	for size < len(text) && begins(text[size:]) == api.TkBad {
		size++
	}
	return size
}
