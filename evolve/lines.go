package evolve

import (
	"strings"

	"motley/api"
	"motley/source"
)

// linesOf are the lines of a text, without line feeds.
func linesOf(text string) []string {
	var l []string
	for line := range strings.Lines(text) {
		l = append(l, strings.TrimSuffix(line, "\n"))
	}
	return l
}

// lexed are the lines of a text that have tokens; or the error of the first line that has one.
func lexed(text string) ([][]source.Token, api.Errno) {
	var l [][]source.Token
	for _, line := range linesOf(text) {
		tokens, e := source.Lex(line)
		if e != api.OK {
			return nil, e
		}
		if len(tokens) > 0 {
			l = append(l, tokens)
		}
	}
	return l, api.OK
}

// productLines are the lines of a product.
func productLines(l source.List) [][]source.Token {
	return grouped(l.Tokens, func(a, b source.Token) bool { return spotOf(a) == spotOf(b) })
}

// grouped divides a list wherever two neighbours do not belong together.
func grouped[T any](l []T, together func(a, b T) bool) [][]T {
	var groups [][]T
	for k, x := range l {
		if k == 0 || !together(l[k-1], x) {
			groups = append(groups, nil)
		}
		last := len(groups) - 1
		groups[last] = append(groups[last], x)
	}
	return groups
}

// wordsOf are the texts of tokens, with a blank between two. (None of them has a blank: so the words of two lines are
// the same only if all texts are.)
func wordsOf(line []source.Token) string {
	var texts []string
	for _, t := range line {
		texts = append(texts, t.Text)
	}
	return strings.Join(texts, " ")
}

// spot is a line of a file.
type spot struct{ file, line int }

func spotOf(t source.Token) spot { return spot{t.File, t.Line} }
