package check

import (
	"maps"
	"slices"

	"motley/diagram"
)

// shares gives conditions to things. None is empty.
type shares[K comparable] map[K]diagram.D

// add gives a thing more configurations.
func (s shares[K]) add(k K, d diagram.D) {
	if !d.Empty() {
		s[k] = s[k].Or(d)
	}
}

// join adds what others have, as far as it is in d.
func join[K comparable](into, from shares[K], d diagram.D) {
	for k, have := range from {
		into.add(k, meet(have, d))
	}
}

// sorted are the things in their order.
func sorted[K comparable](s shares[K], compare func(a, b K) int) []K {
	return slices.SortedFunc(maps.Keys(s), compare)
}

// counted are numbers, of which those in d are one greater than the others were.
func counted(s shares[int], d diagram.D) shares[int] {
	next := shares[int]{}
	for n, have := range s {
		next.add(n, without(have, d))
		next.add(n+1, meet(have, d))
	}
	return next
}

// meet is the intersection. (Often both sets are the same, and then there is nothing to be done.)
func meet(a, b diagram.D) diagram.D {
	if a.Same(b) {
		return a
	}
	return a.And(b)
}

// without is what a has and b has not.
func without(a, b diagram.D) diagram.D {
	if a.Same(b) {
		return diagram.False()
	}
	return b.Ite(diagram.False(), a)
}
