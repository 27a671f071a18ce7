package model

import (
	"motley/api"
	"motley/diagram"
	"motley/formula"
)

// Cost returns the sum of an attribute's values of all selected features.
func Cost(m api.Model, attribute int, c uint32) (int64, api.Errno) {
	if e := checkAttribute(m, attribute); e != api.OK {
		return 0, e
	}
	return costOf(m, attribute, c), api.OK
}

// Cheapest returns the product with the least cost, and this cost.
func Cheapest(m api.Model, attribute int) (uint32, int64, api.Errno) {
	if e := checkAttribute(m, attribute); e != api.OK {
		return 0, 0, e
	}
	c, cost, e := diagram.AndAll(setsOf(m)...).Cheapest(m.Attributes[attribute].Values)
	if e != api.OK {
		return 0, 0, api.ErrConflict
	}
	return c, cost, api.OK
}

func checkAttribute(m api.Model, attribute int) api.Errno {
	if e := Check(m); e != api.OK {
		return e
	}
	if !isIndex(attribute, len(m.Attributes)) {
		return api.ErrRange
	}
	return api.OK
}

func costOf(m api.Model, attribute int, c uint32) int64 {
	sum := int64(0)
	for i, x := range m.Attributes[attribute].Values {
		if c>>i&1 == 1 {
			sum += x
		}
	}
	return sum
}

// Rank returns the rank of a product.
func Rank(m api.Model, c uint32) (uint64, api.Errno) {
	d, e := Diagram(m)
	switch {
	case e != api.OK:
		return 0, e
	case !d.Has(c):
		return 0, api.ErrNone
	}
	rank := uint64(0)
	for i := len(m.Features) - 1; i >= 0; i-- {
		on := c>>i&1 == 1
		if on {
			rank += countWithout(d, i)
		}
		d = d.With(i, on)
	}
	return rank, api.OK
}

// Unrank returns the product with a rank.
func Unrank(m api.Model, k uint64) (uint32, api.Errno) {
	d, e := Diagram(m)
	if e != api.OK {
		return 0, e
	}
	n := len(m.Features)
	if count, _ := d.Count(n); k >= count {
		return 0, api.ErrNone
	}
	c := uint32(0)
	for i := n - 1; i >= 0; i-- {
		lower := countWithout(d, i)
		on := k >= lower
		if on {
			k -= lower
			c |= 1 << i
		}
		d = d.With(i, on)
	}
	return c, api.OK
}

// countWithout is how many products lack the feature i, in a set in which all features behind it are fixed.
func countWithout(d diagram.D, i int) uint64 {
	count, _ := d.With(i, false).Count(i)
	return count
}

// Clauses returns the clauses of the sets of all rules.
func Clauses(m api.Model) ([][]int, api.Errno) {
	if e := Check(m); e != api.OK {
		return nil, e
	}
	var all [][]int
	for _, d := range setsOf(m) {
		l, e := formula.Clauses(d)
		if e != api.OK || len(all)+len(l) > api.MaxClauses {
			return nil, api.ErrLimit
		}
		all = append(all, l...)
	}
	return all, api.OK
}
