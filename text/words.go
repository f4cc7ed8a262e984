package text

import (
	"strings"

	"plunder/api"
	"plunder/ops"
)

// Kinds of words.
const (
	wordEnd  = iota // the end of the text
	wordName        // a name that is no keyword
	wordKey
	wordNumber
	wordSign
	wordNone // a byte that begins no word
)

// signs has each sign ahead of those that it begins with, so that the first one that fits is as long as can be.
var signs = [...]string{"<<", "<=", "<", ">>", "==", "=", "!=", "!", "&&", "&", "||", "|", "(", ")", "{", "}", ",", ";", "+", "-", "*", "/", "%", "^"}

// The levels of the binary signs.
const (
	noLevel  = 0
	loosest  = 1
	tightest = 8
)

// level tells a binary sign's level. What is none, as min and max, has no level.
func level(sign string) int {
	switch sign {
	case "||":
		return loosest
	case "&&":
		return 2
	case "==", "!=", "<", "<=":
		return 3
	case "|", "^":
		return 4
	case "&":
		return 5
	case "<<", ">>":
		return 6
	case "+", "-":
		return 7
	case "*", "/", "%":
		return tightest
	}
	return noLevel
}

// firstWord tells the kind and the length of the word that a text begins with.
func firstWord(text string) (kind, length int) {
	if text == "" {
		return wordEnd, 0
	}
	if n := run(text, isDigit); n > 0 {
		return wordNumber, n
	}
	if n := run(text, inName); n > 0 {
		return nameKind(text[:n]), n
	}
	for _, sign := range signs {
		if strings.HasPrefix(text, sign) {
			return wordSign, len(sign)
		}
	}
	return wordNone, 1
}

// run tells how many bytes the letters at a text's beginning have that belong together.
func run(text string, belongs func(rune) bool) int {
	for at, letter := range text {
		if !belongs(letter) {
			return at
		}
	}
	return len(text)
}

func isDigit(letter rune) bool { return '0' <= letter && letter <= '9' }

// inName tells whether a letter may stand in a name, not whether a name may begin with it.
func inName(letter rune) bool {
	return 'a' <= letter && letter <= 'z' || 'A' <= letter && letter <= 'Z' || letter == '_' || isDigit(letter)
}

func nameKind(name string) int {
	switch name {
	case "fn", "let", "spawn", "sync", "if", "else", "while", "do", "return", "break", "continue", "min", "max", "reduce", "each":
		return wordKey
	}
	return wordName
}

// isName tells whether a text is just one name, and one that may stand in a source.
func isName(text string) bool {
	if len(text) > api.MaxName {
		return false
	}
	kind, length := firstWord(text)
	return kind == wordName && length == len(text)
}

// blanks tells how many bytes the blanks and comments at a text's beginning have.
func blanks(text string) int {
	at := 0
	for at < len(text) {
		switch {
		case strings.IndexByte(" \t\n\r", text[at]) >= 0:
			at++
		case strings.HasPrefix(text[at:], "//"):
			at += lineLength(text[at:])
		default:
			return at
		}
	}
	return at
}

func lineLength(text string) int {
	if n := strings.IndexByte(text, '\n'); n >= 0 {
		return n
	}
	return len(text)
}

// negated tells minus a number, which is an int64 even for the greatest that may stand in a source, if a number may have these digits.
func negated(digits string) (int64, bool) {
	if digits == "0" { // ops has no -0
		return 0, true
	}
	n, err := ops.Parse("-" + digits)
	return n, err == api.OK
}
