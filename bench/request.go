package bench

import (
	"strconv"
	"strings"

	"motley/api"
)

// request is a line that is to be done, and the answer to it.
type request struct {
	line  string
	words []string
	answer
}

func requestOf(line string) *request {
	return &request{line: line, words: strings.FieldsFunc(line, func(r rune) bool { return r == ' ' })}
}

// isNone reports whether the line is no command.
func (q *request) isNone() bool { return len(q.words) == 0 || strings.HasPrefix(q.words[0], "#") }

// exactly returns the arguments, which are to be so many.
func (q *request) exactly(count int) []string {
	args := q.words[1:]
	if len(args) != count {
		fail(api.ErrForm)
	}
	return args
}

// atLeast returns the arguments, which are to be so many or more.
func (q *request) atLeast(count int) []string {
	args := q.words[1:]
	if len(args) < count {
		fail(api.ErrForm)
	}
	return args
}

// rest is what stands behind the first argument, with all its blanks.
func (q *request) rest() string {
	line := q.line
	for _, word := range q.words[:2] {
		line = strings.TrimLeft(line, " ")[len(word):]
	}
	return line
}

// numbers are those that words are.
func numbers(words []string) []int64 {
	var l []int64
	for _, s := range words {
		l = append(l, number(s))
	}
	return l
}

// number is the one that a word is, if it is written without anything needless.
func number(s string) int64 {
	x, err := strconv.ParseInt(s, 10, 64)
	if err != nil || strconv.FormatInt(x, 10) != s {
		fail(api.ErrForm)
	}
	return x
}
