package sample

import (
	"cmp"
	"slices"

	"motley/api"
)

// Extend returns a list with further products behind it, so that all valid combinations are covered.
func Extend(m api.Model, t int, l []uint32) ([]uint32, api.Errno) {
	f, list, e := familyWith(m, t, l)
	if e != api.OK {
		return nil, e
	}
	return f.extend(list)
}

// Renew extends those elements of a list that are products.
func Renew(m api.Model, t int, l []uint32) ([]uint32, api.Errno) {
	f, e := familyFor(m, t)
	switch {
	case e != api.OK:
		return nil, e
	case len(l) > api.MaxSample:
		return nil, api.ErrArg
	}
	return f.extend(f.own(l))
}

// extend adds to the list itself.
func (f family) extend(list []uint32) ([]uint32, api.Errno) {
	products, e := f.every(api.MaxEvery)
	if e != api.OK {
		return nil, e
	}
	g := f.greedy(products)
	g.take(list...)
	for len(g.open) > 0 {
		c := products[best(g.gains)]
		g.take(c)
		list = append(list, c)
	}
	return list, api.OK
}

// Order returns the indexes of a list, those of elements with great gains first.
func Order(m api.Model, t int, l []uint32) ([]int, api.Errno) {
	f, list, e := familyWith(m, t, l)
	if e != api.OK {
		return nil, e
	}
	const placed = -1 // less than any gain
	g := f.greedy(list)
	var order []int
	for range list {
		k := best(g.gains)
		g.take(list[k])
		g.gains[k] = placed
		order = append(order, k)
	}
	return order, api.OK
}

// greedy knows the gains of some products, for a list that grows.
type greedy struct {
	family
	open     map[api.Cube]bool // the valid combinations that the list does not cover
	products []uint32
	gains    []int
}

func (f family) greedy(products []uint32) greedy {
	all := 0
	for range f.sets() {
		all++
	}
	return greedy{f, f.open(), products, slices.Repeat([]int{all}, len(products))}
}

// take adds products to the list.
func (g greedy) take(l ...uint32) {
	covered := g.cover(g.open, l...)
	for k, c := range g.products {
		for _, x := range covered {
			if agrees(c, x) {
				g.gains[k]--
			}
		}
	}
}

// best returns the index of the greatest element, of several the first one; 0 if there is none.
func best[T cmp.Ordered](l []T) int {
	first := 0
	for k, x := range l {
		if x > l[first] {
			first = k
		}
	}
	return first
}
