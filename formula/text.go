package formula

import (
	"slices"
	"strconv"
	"strings"

	"motley/api"
)

// Write returns the text of clauses.
func Write(n int, l [][]int) (string, api.Errno) {
	if err := checkClauses(n, l); err != api.OK {
		return "", err
	}
	var text strings.Builder
	text.WriteString("p cnf " + strconv.Itoa(n) + " " + strconv.Itoa(len(l)) + "\n")
	for _, clause := range l {
		for _, literal := range clause {
			text.WriteString(strconv.Itoa(literal) + " ")
		}
		text.WriteString("0\n")
	}
	return text.String(), api.OK
}

// Read returns n and the clauses of a text; or an error, and the number of the line at which it is.
func Read(text string) (n int, l [][]int, line int, err api.Errno) {
	var r reader
	for s := range strings.Lines(text) {
		line++
		if strings.HasPrefix(s, "c") {
			continue
		}
		if err := r.read(strings.TrimSuffix(s, "\n")); err != api.OK {
			return 0, nil, line, err
		}
	}
	if !r.begun || len(r.clauses) < r.count {
		return 0, nil, line + 1, api.ErrForm
	}
	return r.n, r.clauses, 0, api.OK
}

// reader takes the lines of a text.
type reader struct {
	begun    bool // the first line was there, with the numbers n and count
	n, count int
	clauses  [][]int
}

func (r *reader) read(line string) api.Errno {
	words := strings.Split(line, " ")
	switch {
	case !r.begun:
		r.begun = true
		return r.first(words)
	case len(r.clauses) == r.count:
		return api.ErrForm
	}
	return r.clause(words)
}

// first reads the words of the first line.
func (r *reader) first(words []string) api.Errno {
	if len(words) != 4 || words[0] != "p" || words[1] != "cnf" {
		return api.ErrForm
	}
	numbers, plain := readNumbers(words[2:])
	if !plain || numbers[0] < 0 || numbers[1] < 0 {
		return api.ErrForm
	}
	r.n, r.count = numbers[0], numbers[1]
	switch {
	case r.n > api.MaxFeatures:
		return api.ErrRange
	case r.count > api.MaxClauses:
		return api.ErrLimit
	}
	return api.OK
}

// clause reads the words of the line of a clause.
func (r *reader) clause(words []string) api.Errno {
	numbers, plain := readNumbers(words)
	end := len(words) - 1
	if !plain || slices.Index(numbers, 0) != end {
		return api.ErrForm
	}
	clause := numbers[:end]
	switch {
	case len(clause) > maxLiterals:
		return api.ErrLimit
	case !areLiterals(clause, r.n):
		return api.ErrRange
	}
	r.clauses = append(r.clauses, clause)
	return api.OK
}

// readNumbers returns the numbers that words are, and whether each is one, of at most 9 digits, as it is written
// without anything needless.
func readNumbers(words []string) ([]int, bool) {
	const beyond = 1_000_000_000
	var l []int
	for _, s := range words {
		x, err := strconv.Atoi(s)
		if err != nil || strconv.Itoa(x) != s || x <= -beyond || x >= beyond {
			return nil, false
		}
		l = append(l, x)
	}
	return l, true
}
