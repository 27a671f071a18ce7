package model

import (
	"motley/api"
	"motley/diagram"
)

// Why returns the explanation of why a set has no product.
func Why(m api.Model, d diagram.D) ([]int, api.Errno) {
	if e := Check(m); e != api.OK {
		return nil, e
	}
	return explain(d, setsOf(m))
}

// WhyDead returns the explanation of why no product has a feature.
func WhyDead(m api.Model, feature int) ([]int, api.Errno) {
	if e := checkFeature(m, feature); e != api.OK {
		return nil, e
	}
	return Why(m, diagram.Cube(1<<feature, 0))
}

// WhyCore returns the explanation of why no product lacks a feature.
func WhyCore(m api.Model, feature int) ([]int, api.Errno) {
	if e := checkFeature(m, feature); e != api.OK {
		return nil, e
	}
	return Why(m, diagram.Cube(0, 1<<feature))
}

// WhyFalse returns the explanation of why no product with the parent of a false-optional feature lacks it.
func WhyFalse(m api.Model, feature int) ([]int, api.Errno) {
	if e := checkFeature(m, feature); e != api.OK {
		return nil, e
	}
	f := m.Features[feature]
	sets := setsOf(m)
	if !isOptional(f) || !diagram.AndAll(sets...).Meets(diagram.Cube(1<<feature, 0)) {
		return nil, api.ErrNone
	}
	return explain(diagram.Cube(1<<f.Parent, 1<<feature), sets)
}

// WhyRedundant returns the explanation, by the other rules, of why no configuration breaks this one alone.
func WhyRedundant(m api.Model, rule int) ([]int, api.Errno) {
	if _, e := checkRule(m, rule); e != api.OK {
		return nil, e
	}
	sets := setsOf(m)
	broken := sets[rule].Not()
	sets[rule] = diagram.True() // a rule that says nothing is in no explanation
	return explain(broken, sets)
}

func checkFeature(m api.Model, feature int) api.Errno {
	if e := Check(m); e != api.OK {
		return e
	}
	if !isIndex(feature, len(m.Features)) {
		return api.ErrRange
	}
	return api.OK
}

// explain returns the explanation of why no configuration of d is in all sets of rules; ErrNone if one is.
func explain(d diagram.D, sets []diagram.D) ([]int, api.Errno) {
	behind := behindEach(d, sets)
	if behind[0].Meets(sets[0]) {
		return nil, api.ErrNone
	}
	var rules []int
	for k := range sets {
		rules = append(rules, k)
	}
	kept := d // what is in d and in all sets that remain
	return remove(rules, func(k int) bool {
		if !kept.Meets(behind[k]) {
			return true
		}
		kept = kept.And(sets[k])
		return false
	}), api.OK
}

// remove returns a list without the elements that spare allows to leave out. It asks for them from the first to the
// last one, once each.
func remove[T any](l []T, spare func(x T) bool) []T {
	var kept []T
	for _, x := range l {
		if !spare(x) {
			kept = append(kept, x)
		}
	}
	return kept
}

// behindEach returns, for each set of a list, what is in d and in all sets behind it.
func behindEach(d diagram.D, sets []diagram.D) []diagram.D {
	l := make([]diagram.D, len(sets))
	for k := len(sets) - 1; k >= 0; k-- {
		l[k] = d
		d = d.And(sets[k])
	}
	return l
}
