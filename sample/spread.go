package sample

import (
	"math/bits"
	"slices"

	"motley/api"
)

// Spread returns k products whose ranks are as far from each other as possible.
func Spread(m api.Model, k int) ([]uint32, api.Errno) {
	f, e := familyOf(m)
	switch {
	case e != api.OK:
		return nil, e
	case k > api.MaxSample:
		return nil, api.ErrLimit
	}
	var l []uint32
	ranks := ranksOf(k, f.count())
	rank := uint64(0)
	for c := range f.products.All(f.features) {
		if len(ranks) == 0 {
			break
		}
		if ranks[0] == rank {
			ranks = ranks[1:]
			l = append(l, c)
		}
		rank++
	}
	return l, api.OK
}

// ranksOf returns k ranks among so many products, each once.
func ranksOf(k int, count uint64) []uint64 {
	var ranks []uint64
	for i := range k {
		ranks = append(ranks, uint64(i)*count/uint64(k))
	}
	return slices.Compact(ranks)
}

// Diverse returns k products, each as far as possible from those before.
func Diverse(m api.Model, k int) ([]uint32, api.Errno) {
	f, e := familyOf(m)
	if e != api.OK {
		return nil, e
	}
	products, e := f.every(api.MaxEvery)
	switch {
	case e != api.OK:
		return nil, e
	case k > api.MaxSample:
		return nil, api.ErrLimit
	}
	var l []uint32
	distances := slices.Repeat([]int{f.features}, len(products)) // equal, so that the least product is the first
	for range min(k, len(products)) {
		c := products[best(distances)]
		l = append(l, c)
		for i, p := range products {
			distances[i] = min(distances[i], bits.OnesCount32(c^p))
		}
	}
	return l, api.OK
}
