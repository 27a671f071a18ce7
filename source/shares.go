package source

import (
	"iter"

	"motley/diagram"
)

// shares divides configurations among keys, in the order in which the keys came. No share is empty.
type shares[K comparable] struct {
	keys []K
	sets map[K]diagram.D
}

// share gives all configurations to one key.
func share[K comparable](k K, d diagram.D) shares[K] {
	var s shares[K]
	s.add(k, d)
	return s
}

// add gives a key more configurations.
func (s *shares[K]) add(k K, d diagram.D) {
	if d.Empty() {
		return
	}
	if s.sets == nil {
		s.sets = map[K]diagram.D{}
	}
	old, is := s.sets[k]
	if !is {
		s.keys = append(s.keys, k)
	}
	s.sets[k] = old.Or(d)
}

// all yields the keys with their shares.
func (s *shares[K]) all() iter.Seq2[K, diagram.D] {
	return func(yield func(K, diagram.D) bool) {
		for _, k := range s.keys {
			if !yield(k, s.sets[k]) {
				return
			}
		}
	}
}

// union is what all keys have.
func (s *shares[K]) union() diagram.D {
	union := diagram.False()
	for _, d := range s.all() {
		union = union.Or(d)
	}
	return union
}

// meet is the intersection. (Often both sets are the same, and then there is nothing to be done.)
func meet(a, b diagram.D) diagram.D {
	if a.Same(b) {
		return a
	}
	return a.And(b)
}

// without is what a has and b has not.
func without(a, b diagram.D) diagram.D {
	if a.Same(b) {
		return diagram.False()
	}
	return b.Ite(diagram.False(), a)
}
