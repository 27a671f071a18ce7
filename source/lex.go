package source

import (
	"strconv"
	"strings"

	"motley/api"
	"motley/diagram"
)

const (
	blanks  = " \t"
	comment = "//"
)

// signs stand so that each one comes before those with which it begins.
var signs = [...]string{
	"<=", ">=", "==", "!=", "&&", "||",
	"+", "-", "*", "/", "%", "<", ">", "=", "!", "(", ")", "{", "}", ",", ";", ":",
}

// token is a token of a line or of a body, with its index there.
type token struct {
	kind  uint8
	text  string
	index int
	asked string // where the token is the answer to a defined: the name that is asked for
}

// Lex returns the tokens of a line that is no directive.
func Lex(line string) ([]Token, api.Errno) {
	l, e := lexLine(line)
	if e != api.OK {
		return nil, e
	}
	var tokens []Token
	for i, t := range l {
		tokens = append(tokens, Token{Kind: t.kind, Text: t.text, Path: []int{i}, Cond: diagram.True()})
	}
	return tokens, api.OK
}

// lexLine returns the tokens of a line that is no directive; or its first error.
func lexLine(line string) ([]token, api.Errno) {
	l, is := lex(line)
	switch {
	case !is || !hasLineBytes(line):
		return nil, api.ErrForm
	case len(l) > api.MaxWidth:
		return nil, api.ErrLimit
	}
	return l, api.OK
}

// lex returns the tokens of a text up to a comment, and whether it has nothing else but blanks.
func lex(s string) ([]token, bool) {
	s, _, _ = strings.Cut(s, comment)
	kinds := recognisers()
	var l []token
	for s = strings.TrimLeft(s, blanks); s != ""; s = strings.TrimLeft(s, blanks) {
		t, is := first(kinds, s)
		if !is {
			return nil, false
		}
		t.index = len(l)
		l = append(l, t)
		s = s[len(t.text):]
	}
	return l, true
}

// first returns the token with which a text begins, and whether there is one.
func first(kinds []recogniser, s string) (token, bool) {
	for _, r := range kinds {
		if text := r.find(s); text != "" {
			return token{kind: r.kind, text: text}, true
		}
	}
	return token{}, false
}

// recogniser finds the tokens of a kind.
type recogniser struct {
	kind uint8
	find func(s string) string // the token of this kind with which s begins; empty if there is none
}

// recognisers are tried in turn.
func recognisers() []recogniser {
	wordThat := func(is func(string) bool) func(string) string {
		return func(s string) string {
			if word := s[:length(s, isWordByte)]; is(word) {
				return word
			}
			return ""
		}
	}
	return []recogniser{
		{api.TokName, wordThat(isName)},
		{api.TokNumber, wordThat(isNumber)},
		{api.TokSign, firstSign},
	}
}

func firstSign(s string) string {
	for _, sign := range signs {
		if strings.HasPrefix(s, sign) {
			return sign
		}
	}
	return ""
}

// length is how many bytes of a kind a text begins with.
func length(s string, is func(byte) bool) int {
	n := 0
	for n < len(s) && is(s[n]) {
		n++
	}
	return n
}

func isLetter(b byte) bool { return 'a' <= b && b <= 'z' || 'A' <= b && b <= 'Z' }

func isDigit(b byte) bool { return '0' <= b && b <= '9' }

func isWordByte(b byte) bool { return isLetter(b) || isDigit(b) || b == '_' }

func isFileByte(b byte) bool { return isWordByte(b) || b == '.' || b == '-' }

func isLineByte(b byte) bool { return ' ' <= b && b <= '~' || b == '\t' }

func hasLineBytes(line string) bool { return length(line, isLineByte) == len(line) }

// isShort reports whether a text has a length that names may have.
func isShort(s string) bool { return 0 < len(s) && len(s) <= api.MaxName }

func isName(s string) bool { return isShort(s) && !isDigit(s[0]) && length(s, isWordByte) == len(s) }

func isFileName(s string) bool { return isShort(s) && length(s, isFileByte) == len(s) }

// isNumber reports whether a word is a number that is written without anything needless.
func isNumber(word string) bool {
	x, err := strconv.Atoi(word)
	return err == nil && x <= api.MaxNumber && strconv.Itoa(x) == word
}
