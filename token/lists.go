package token

import "strings"

// Both lists are in rising order.
var (
	words = [...]string{"def", "else", "false", "fn", "if", "import", "in", "let", "match", "then", "true", "type"}
	signs = [...]string{"!", "&&", "(", ")", "*", "+", ",", "-", "->", ".", ":", ";", "<", "=", "==", "=>", "[", "]", "{", "|", "||", "}"}
)

// Words returns the words in rising order.
func Words() []string {
	list := words
	return list[:]
}

// Signs returns the signs in rising order.
func Signs() []string {
	list := signs
	return list[:]
}

func isWord(name string) bool {
	for _, w := range words {
		if name == w {
			return true
		}
	}
	return false
}

// signSize returns the number of bytes of the sign with which a string begins, or 0. In rising order a sign is before those that it begins: from behind, the first one that fits is the longest.
func signSize(text string) int {
	for i := len(signs) - 1; i >= 0; i-- {
		if strings.HasPrefix(text, signs[i]) {
			return len(signs[i])
		}
	}
	return 0
}
