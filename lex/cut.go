package lex

import (
	"strings"

	"commissary/api"
)

// noToken is the kind of what is no token.
const noToken = 0

const remark = "--"

// signs is the signs, a longer one ahead of those that it begins with.
var signs = [15]string{"<=", ">=", "<>", "(", ")", ",", ".", "*", "+", "-", "/", "%", "=", "<", ">"}

// skip is where, from a place on, the blanks and remarks end.
func skip(text string, place int) int {
skipping:
	for place < len(text) {
		switch {
		case isBlank(text[place]):
			place++
		case strings.HasPrefix(text[place:], remark):
			place += run(text[place:], func(b byte) bool { return b != '\n' })
		default:
			break skipping
		}
	}
	return place
}

// cut is the token that a text begins with, and how many bytes of the text it takes.
func cut(text string) (api.Token, int) {
	switch {
	case text == "":
		return api.Token{Kind: api.TokEnd}, 0
	case isLetter(text[0]):
		return cutWord(text)
	case isDigit(text[0]):
		return cutNum(text)
	case text[0] == '\'':
		return cutText(text)
	}
	return cutSign(text)
}

func cutWord(text string) (api.Token, int) {
	size := run(text, func(b byte) bool { return isLetter(b) || isDigit(b) })
	word := text[:size]
	switch {
	case size > api.MaxName:
		return api.Token{}, 0
	case Key(word):
		return api.Token{Kind: api.TokKey, S: word}, size
	}
	return api.Token{Kind: api.TokWord, S: word}, size
}

func cutNum(text string) (api.Token, int) {
	size := run(text, isDigit)
	if size < len(text) && isLetter(text[size]) {
		return api.Token{}, 0
	}
	n := 0
	for i := range size {
		n = 10*n + int(text[i]-'0')
		if n > api.MaxInt {
			return api.Token{}, 0
		}
	}
	return api.Token{Kind: api.TokNum, S: text[:size], N: n}, size
}

func cutText(text string) (api.Token, int) {
	var said []byte
	for i := 1; i < len(text) && len(said) <= api.MaxText; i++ {
		if text[i] == '\'' {
			if !strings.HasPrefix(text[i:], "''") {
				return api.Token{Kind: api.TokText, S: string(said)}, i + 1
			}
			i++
		}
		said = append(said, text[i])
	}
	return api.Token{}, 0
}

func cutSign(text string) (api.Token, int) {
	for i := range signs {
		if strings.HasPrefix(text, signs[i]) {
			return api.Token{Kind: api.TokSign, S: signs[i]}, len(signs[i])
		}
	}
	return api.Token{}, 0
}

// run is how many bytes a text begins with of which in holds.
func run(text string, in func(b byte) bool) int {
	for i := range len(text) {
		if !in(text[i]) {
			return i
		}
	}
	return len(text)
}

func isBlank(b byte) bool {
	return b == ' ' || b == '\t' || b == '\n' || b == '\r'
}

// isLetter counts _ among the letters: it stands wherever they do.
func isLetter(b byte) bool {
	return b == '_' || 'a' <= b && b <= 'z' || 'A' <= b && b <= 'Z'
}

func isDigit(b byte) bool {
	return '0' <= b && b <= '9'
}
