package syntax

import "motley/diagram"

// shares divides configurations among keys. No share is empty.
type shares[K comparable] map[K]diagram.D

// add gives a key more configurations.
func (s shares[K]) add(k K, d diagram.D) {
	if !d.Empty() {
		s[k] = s[k].Or(d)
	}
}

// take takes configurations away from all keys, and returns the shares that they had of these.
func (s shares[K]) take(d diagram.D) shares[K] {
	taken := shares[K]{}
	for k, have := range s {
		taken.add(k, meet(have, d))
		s[k] = without(have, d)
		if s[k].Empty() {
			delete(s, k)
		}
	}
	return taken
}

// meet is the intersection. (Often both sets are the same, and then there is nothing to be done.)
func meet(a, b diagram.D) diagram.D {
	if a.Same(b) {
		return a
	}
	return a.And(b)
}

// without is what a has and b has not.
func without(a, b diagram.D) diagram.D {
	if a.Same(b) {
		return diagram.False()
	}
	return b.Ite(diagram.False(), a)
}
