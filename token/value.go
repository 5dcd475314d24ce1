package token

import (
	"strconv"
	"strings"

	"marginalia/api"
)

// Quote returns the text of the TkText that stands for a string.
func Quote(s string) (string, api.Errno) {
	// What is written is never shorter than the string: a string that is far too long need not be written at all.
	if len(s) > api.MaxText-2 {
		return "", api.ErrLimit
	}
	var written strings.Builder
	written.WriteByte('"')
	for i := range len(s) {
		switch b := s[i]; b {
		case '\n':
			written.WriteString(`\n`)
		case '"', '\\':
			written.WriteByte('\\')
			written.WriteByte(b)
		default:
			written.WriteByte(b)
		}
	}
	written.WriteByte('"')
	if written.Len() > api.MaxText {
		return "", api.ErrLimit
	}
	return written.String(), api.OK
}

// Unquote returns the string for which a TkText stands.
func Unquote(t api.Token) (string, api.Errno) {
	if t.Kind != api.TkText || !IsToken(t) {
		return "", api.ErrForm
	}
	var s strings.Builder
	for at := 1; at < len(t.Text)-1; {
		b, step := plain(t.Text[at:])
		s.WriteByte(b)
		at += step
	}
	return s.String(), api.OK
}

// plain returns the byte for which the beginning of a string that is not empty stands in a TkText, and how many bytes stand for it: none, if they are none that may be in a TkText.
func plain(text string) (b byte, size int) {
	switch text[0] {
	case '"', '\n':
		return 0, 0
	case '\\':
		return pair(text)
	}
	return text[0], 1
}

// pair does the same from a backslash on.
func pair(text string) (b byte, size int) {
	if len(text) < 2 {
		return 0, 0
	}
	switch text[1] {
	case 'n':
		return '\n', 2
	case '"', '\\':
		return text[1], 2
	}
	return 0, 0
}

// Number returns the number of a TkInt, and whether it is one of 64 bits.
func Number(t api.Token) (int64, bool, api.Errno) {
	if t.Kind != api.TkInt || !IsToken(t) {
		return 0, false, api.ErrForm
	}
	n, e := strconv.ParseInt(t.Text, 10, 64)
	if e != nil {
		return 0, false, api.OK
	}
	return n, true, api.OK
}
