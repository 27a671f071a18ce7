package decide

import (
	"math/bits"

	"motley/api"
	"motley/diagram"
	"motley/model"
)

// Propagate returns the features that all products that agree with the choices have, and those that none of them has.
func Propagate(m api.Model, l []api.Choice) (on, off uint32, e api.Errno) {
	products, e := productsFor(m, l)
	if e != api.OK {
		return 0, 0, e
	}
	rest := products.And(setOf(l...))
	if rest.Empty() {
		return 0, 0, api.ErrConflict
	}
	on, off = rest.Fixed()
	return on, off, api.OK
}

// Diagnose returns the fewest choices that are to be left out so that some product agrees with all others.
func Diagnose(m api.Model, l []api.Choice) ([]int, api.Errno) {
	products, e := productsFor(m, l)
	if e != api.OK {
		return nil, e
	}
	c, _, e := products.Cheapest(prices(l))
	if e != api.OK {
		return nil, api.ErrConflict
	}
	var out []int
	for k, x := range l {
		if on := c>>x.Feature&1 == 1; on != x.On {
			out = append(out, k)
		}
	}
	return out, api.OK
}

// prices are costs by which the cheapest product is the one that Diagnose is to listen to.
//
// To disagree with the choice k costs one large unit, less the bit k from the left of such a unit. So fewer
// disagreements are always cheaper; and of as many, those are cheapest whose bits are the greatest number: they have
// the least first index, then the least second one, and so on.
func prices(l []api.Choice) []int64 {
	costs := make([]int64, api.MaxFeatures)
	for k, x := range l {
		price := int64(1)<<api.MaxFeatures - int64(1)<<(api.MaxFeatures-1-k)
		if x.On {
			price = -price // it is leaving out the feature that disagrees
		}
		costs[x.Feature] += price
	}
	return costs
}

// Repair returns the product that differs from c in the fewest features, and in how many.
func Repair(m api.Model, c uint32) (uint32, int, api.Errno) {
	products, e := model.Diagram(m)
	if e != api.OK {
		return 0, 0, e
	}
	c &= 1<<len(m.Features) - 1
	near, is := products.Nearest(c)
	if !is {
		return 0, 0, api.ErrConflict
	}
	return near, bits.OnesCount32(near ^ c), api.OK
}

// productsFor returns the set of a model for which the choices are valid.
func productsFor(m api.Model, l []api.Choice) (diagram.D, api.Errno) {
	products, e := model.Diagram(m)
	switch {
	case e != api.OK:
		return diagram.D{}, e
	case !fits(l, len(m.Features)):
		return diagram.D{}, api.ErrArg
	}
	return products, api.OK
}

// fits reports whether choices are valid for a model with so many features.
func fits(l []api.Choice, features int) bool {
	for _, x := range l {
		if !has(x.Feature, features) {
			return false
		}
	}
	return len(l) <= api.MaxFeatures
}
