package diagram

import (
	"slices"

	"motley/api"
)

// Between is the set of the configurations with at least low and at most high of the features.
func Between(features uint32, low, high int) D {
	var w weights
	for i := range members(features) {
		w[i] = 1
	}
	return costing(w, int64(low), int64(high))
}

// Linear is the set of the configurations whose cost has the relation to the bound.
func Linear(costs []int64, rel uint8, bound int64) (D, api.Errno) {
	w, valid := weigh(costs)
	if !valid {
		return D{}, api.ErrArg
	}
	switch rel {
	case api.AtMost:
		return costing(w, -far, bound), api.OK
	case api.AtLeast:
		return costing(w, bound, far), api.OK
	case api.Equal:
		return costing(w, bound, bound), api.OK
	}
	return D{}, api.ErrArg
}

// costing is the set of the configurations that cost at least low and at most high.
func costing(w weights, low, high int64) D {
	if low > high {
		return False()
	}
	s := summing{work: newWork(), weights: w, low: nearer(low), high: nearer(high)}
	return s.set(s.from(0, 0).place)
}

// nearer is a bound that says the same of all costs, and from which sums can be taken.
func nearer(bound int64) int64 { return min(max(bound, -far), far) }

// span is a range of sums with which the features from some one on give the same set, at place.
type span struct {
	low, high int64
	place     uint32
}

// summing is the work of costing. Sums are not remembered one by one, for there may be 2^24 of them; of spans no
// feature has more than some thousands: at most 2^i before the feature i, and twice 2^(24-i) and one behind it.
type summing struct {
	*work
	weights
	low, high int64
	seen      [featureCount][]span // rising, without a sum in common
}

// from returns the span of a sum that the features before i have.
func (s *summing) from(i int, sum int64) span {
	if i == featureCount {
		return s.end(sum)
	}
	k, found := slices.BinarySearchFunc(s.seen[i], sum, span.compare)
	if found {
		return s.seen[i][k]
	}
	cost := s.weights[i]
	without := s.from(i+1, sum)
	with := s.from(i+1, sum+cost)
	got := span{
		low:   max(without.low, with.low-cost),
		high:  min(without.high, with.high-cost),
		place: s.node(i, without.place, with.place),
	}
	s.seen[i] = slices.Insert(s.seen[i], k, got)
	return got
}

func (s *summing) end(sum int64) span {
	switch {
	case sum < s.low:
		return span{-2 * far, s.low - 1, emptyPlace}
	case sum > s.high:
		return span{s.high + 1, 2 * far, emptyPlace}
	}
	return span{s.low, s.high, fullPlace}
}

func (s span) compare(sum int64) int {
	switch {
	case s.high < sum:
		return -1
	case s.low > sum:
		return 1
	}
	return 0
}
