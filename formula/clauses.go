package formula

import (
	"iter"

	"motley/api"
	"motley/diagram"
)

const maxLiterals = 64 // of a clause

// isLiteral reports whether a number is a literal of one of the features below n.
func isLiteral(literal, n int) bool {
	return literal != 0 && -n <= literal && literal <= n
}

// areLiterals reports whether a list is a clause of features below n.
func areLiterals(l []int, n int) bool {
	for _, literal := range l {
		if !isLiteral(literal, n) {
			return false
		}
	}
	return true
}

// checkClauses returns the error of n and clauses.
func checkClauses(n int, l [][]int) api.Errno {
	if n < 0 || n > api.MaxFeatures {
		return api.ErrRange
	}
	if len(l) > api.MaxClauses || !areClauses(l, n) {
		return api.ErrArg
	}
	return api.OK
}

func areClauses(l [][]int, n int) bool {
	for _, clause := range l {
		if len(clause) > maxLiterals || !areLiterals(clause, n) {
			return false
		}
	}
	return true
}

// Conjunction returns the set of the configurations for which all clauses are true.
func Conjunction(n int, l [][]int) (diagram.D, api.Errno) {
	if err := checkClauses(n, l); err != api.OK {
		return diagram.D{}, err
	}
	return allOf(l), api.OK
}

// allOf is the set of valid clauses. They are taken in halves, for sets of few clauses are small, and only the last
// steps work on large ones.
func allOf(l [][]int) diagram.D {
	switch len(l) {
	case 0:
		return diagram.True()
	case 1:
		return setOf(l[0])
	}
	half := len(l) / 2
	first := allOf(l[:half])
	if first.Empty() {
		return first
	}
	return first.And(allOf(l[half:]))
}

// setOf is the set of a clause: all but the configurations for which none of its literals is true.
func setOf(clause []int) diagram.D {
	var on, off uint32
	for _, literal := range clause {
		if literal > 0 {
			off |= 1 << (literal - 1)
		} else {
			on |= 1 << (-literal - 1)
		}
	}
	return diagram.Cube(on, off).Not()
}

// Models yields the models, rising.
func Models(n int, l [][]int) iter.Seq[uint32] {
	d, _ := Conjunction(n, l) // empty with an error
	return d.All(n)
}

// Core returns the indexes of clauses that have no model, but have one without any one of them.
func Core(n int, l [][]int) ([]int, api.Errno) {
	d, err := Conjunction(n, l)
	switch {
	case err != api.OK:
		return nil, err
	case !d.Empty():
		return nil, api.ErrNone
	}
	c := coring{l: l}
	c.reduce(0, len(l), diagram.True())
	return c.core, api.OK
}

// coring is the work of Core.
type coring struct {
	l    [][]int
	core []int
}

// reduce leaves out clauses from first to last, as far as the set of all others that are left allows it, and returns
// the set of those that remain.
//
// It comes to the same as going through them one by one, but a set of many clauses serves for all of a half.
func (c *coring) reduce(first, last int, others diagram.D) diagram.D {
	switch {
	case others.Empty():
		return diagram.True()
	case last-first == 1:
		c.core = append(c.core, first)
		return setOf(c.l[first])
	}
	half := (first + last) / 2
	low := c.reduce(first, half, others.And(allOf(c.l[half:last])))
	high := c.reduce(half, last, others.And(low))
	return low.And(high)
}
