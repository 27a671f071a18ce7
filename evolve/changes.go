package evolve

import (
	"motley/api"
	"motley/diagram"
)

// versions are the sets of two models over the union of their names.
type versions struct {
	names []string
	a, b  diagram.D
}

func versionsOf(a, b api.Model) (versions, api.Errno) {
	names, e := Union(a, b)
	if e != api.OK {
		return versions{}, e
	}
	v := versions{names: names}
	v.a, _ = Widen(a, names)
	v.b, _ = Widen(b, names)
	return v, api.OK
}

func (v versions) lost() diagram.D { return without(v.a, v.b) }

func (v versions) gained() diagram.D { return without(v.b, v.a) }

// kind is how the change is classified.
func (v versions) kind() uint8 {
	switch {
	case v.a.Same(v.b):
		return Refactoring
	case v.a.Within(v.b):
		return Generalization
	case v.b.Within(v.a):
		return Specialization
	}
	return Arbitrary
}

// count is how many configurations of the features with names a set has.
func (v versions) count(d diagram.D) uint64 {
	n, _ := d.Count(len(v.names))
	return n
}

// Differences returns what a has and b has not, and what b has and a has not.
func Differences(a, b api.Model) (lost, gained diagram.D, e api.Errno) {
	v, e := versionsOf(a, b)
	if e != api.OK {
		return diagram.D{}, diagram.D{}, e
	}
	return v.lost(), v.gained(), api.OK
}

// Compare returns the change from a to b.
func Compare(a, b api.Model) (Change, api.Errno) {
	v, e := versionsOf(a, b)
	if e != api.OK {
		return Change{}, e
	}
	lost, _ := v.lost().Least()
	gained, _ := v.gained().Least()
	return Change{
		Kind:   v.kind(),
		Names:  v.names,
		Gone:   namesOnlyIn(a, b),
		New:    namesOnlyIn(b, a),
		Before: v.count(v.a),
		After:  v.count(v.b),
		Both:   v.count(v.a.And(v.b)),
		Lost:   lost,
		Gained: gained,
	}, api.OK
}
