package diagram

import (
	"cmp"
	"iter"

	"motley/api"
)

// far is farther from 0 than the cost of any configuration.
const far = int64(1) << 40

// weights has a cost for every feature.
type weights [featureCount]int64

// weigh takes a list of costs, if it is valid.
func weigh(costs []int64) (weights, bool) {
	var w weights
	if len(costs) > len(w) {
		return w, false
	}
	for _, x := range costs {
		if x < -api.MaxCost || x > api.MaxCost {
			return w, false
		}
	}
	copy(w[:], costs)
	return w, true
}

// alike gives every feature the cost 1.
func alike() weights {
	var w weights
	for i := range w {
		w[i] = 1
	}
	return w
}

func (w weights) cost(c uint32) int64 {
	sum := int64(0)
	for i := range members(c) {
		sum += w[i]
	}
	return sum
}

// Count returns how many configurations below 2^n the set has.
func (a D) Count(n int) (uint64, api.Errno) {
	if n < 0 || n > featureCount {
		return 0, api.ErrRange
	}
	if a.Support()>>n != 0 {
		return 0, api.ErrArg
	}
	return Fold(a, 0, 1<<featureCount, mean) >> (featureCount - n), api.OK
}

// mean counts the configurations of all features: half of those of each child have the feature as the child needs
// it, for the child does not depend on it.
func mean(_ int, low, high uint64) uint64 { return (low + high) / 2 }

// Least is the least configuration.
func (a D) Least() (uint32, bool) { return a.best(weights{}) }

// Smallest is the configuration with the fewest features; of several, the least.
func (a D) Smallest() (uint32, bool) { return a.best(alike()) }

// Nearest is the configuration that differs from c in the fewest features; of several, the least.
func (a D) Nearest(c uint32) (uint32, bool) {
	w := alike()
	for i := range members(c) {
		w[i] = -1 // it is leaving out this one that makes a difference
	}
	return a.best(w)
}

// Cheapest is the configuration with the least cost, and this cost; of several, the least.
func (a D) Cheapest(costs []int64) (uint32, int64, api.Errno) {
	w, valid := weigh(costs)
	if !valid {
		return 0, 0, api.ErrArg
	}
	c, is := a.best(w)
	if !is {
		return 0, 0, api.ErrNone
	}
	return c, w.cost(c), api.OK
}

// best is the configuration with the least cost; of several, the least.
func (a D) best(w weights) (uint32, bool) {
	if a.Empty() {
		return 0, false
	}
	usual := uint32(0)
	for i, x := range w {
		if x < 0 {
			usual |= 1 << i
		}
	}
	p := pricing{w}
	return Fold(a, offer{extra: far}, offer{c: usual}, p.better).c, true
}

// pricing is the work of best. What is cheapest without regard to the set is usual, and features that the set
// leaves open stay so; only what differs from it has a price, and none is below 0.
type pricing struct{ weights }

// offer is a configuration, and what it costs more than the usual one.
type offer struct {
	extra int64
	c     uint32
}

func (p pricing) better(i int, low, high offer) offer {
	low.c &^= 1 << i
	high.c |= 1 << i
	low.extra += max(-p.weights[i], 0)
	high.extra += max(p.weights[i], 0)
	if cmp.Or(cmp.Compare(low.extra, high.extra), cmp.Compare(low.c, high.c)) < 0 {
		return low
	}
	return high
}

// All yields the configurations below 2^n, rising.
func (a D) All(n int) iter.Seq[uint32] {
	n = min(max(n, 0), featureCount)
	for i := n; i < featureCount; i++ {
		a = a.With(i, false)
	}
	return func(yield func(uint32) bool) { a.each(n, 0, yield) }
}

// each yields what the set has below 2^n, with the features of above added, and reports whether to go on.
func (a D) each(n int, above uint32, yield func(uint32) bool) bool {
	const few = 10 // so many features are faster to try than to fix
	if a.Empty() {
		return true
	}
	if n > few {
		i := n - 1
		return a.With(i, false).each(i, above, yield) && a.With(i, true).each(i, above|1<<i, yield)
	}
	for c := range uint32(1) << n {
		if a.Has(c) && !yield(above|c) {
			return false
		}
	}
	return true
}
