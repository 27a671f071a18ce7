package sample

import (
	"cmp"
	"maps"
	"math/bits"
	"slices"

	"motley/api"
)

// mostForLeast is how many products a model may have whose smallest sample is searched.
const mostForLeast = 16

// Reduce leaves out elements of a list, from its end, as long as it covers the same combinations.
func Reduce(m api.Model, t int, l []uint32) ([]uint32, api.Errno) {
	f, list, e := familyWith(m, t, l)
	if e != api.OK {
		return nil, e
	}
	times := map[api.Cube]int{} // how many elements agree with a combination
	for _, c := range list {
		for x := range f.agreeing(c) {
			times[x]++
		}
	}
	var left []uint32
	for _, c := range slices.Backward(list) {
		if f.alone(c, times) {
			left = append(left, c)
			continue
		}
		for x := range f.agreeing(c) {
			times[x]--
		}
	}
	slices.Reverse(left)
	return left, api.OK
}

// alone reports whether an element is the only one that covers some combination.
func (f family) alone(c uint32, times map[api.Cube]int) bool {
	for x := range f.agreeing(c) {
		if times[x] == 1 {
			return true
		}
	}
	return false
}

// Least returns the smallest sample, of several the one whose products are the least.
func Least(m api.Model, t int) ([]uint32, api.Errno) {
	f, e := familyFor(m, t)
	if e != api.OK {
		return nil, e
	}
	products, e := f.every(mostForLeast)
	if e != api.OK {
		return nil, e
	}
	chosen := fewest(len(products), f.needs(products))
	var l []uint32
	for k, c := range products {
		if chosen>>k&1 == 1 {
			l = append(l, c)
		}
	}
	return l, api.OK
}

// needs returns, for the valid combinations, the sets of the indexes of products that agree with them. The smallest
// sets stand first, as a choice is most likely to miss them.
func (f family) needs(products []uint32) []uint32 {
	needs := map[uint32]bool{}
	for x := range f.combinations() {
		need := uint32(0)
		for k, c := range products {
			if agrees(c, x) {
				need |= 1 << k
			}
		}
		needs[need] = true
	}
	return slices.SortedFunc(maps.Keys(needs), func(a, b uint32) int {
		return cmp.Or(cmp.Compare(bits.OnesCount32(a), bits.OnesCount32(b)), cmp.Compare(a, b))
	})
}

// fewest returns a set of indexes below n that has one index at least of each of the needs: one with as few indexes
// as possible, and of those the one whose first index is the least, and so on.
func fewest(n int, needs []uint32) uint32 {
	chosen := uint32(0)
	missed := func(need uint32) bool { return need&chosen == 0 }
	var choose func(from, left int) bool
	choose = func(from, left int) bool {
		if left == 0 {
			return !slices.ContainsFunc(needs, missed)
		}
		for k := from; k < n; k++ {
			chosen |= 1 << k
			if choose(k+1, left-1) {
				return true
			}
			chosen &^= 1 << k
		}
		return false
	}
	for size := range n + 1 {
		if choose(0, size) {
			break
		}
	}
	return chosen
}
