package evolve

import (
	"slices"

	"motley/api"
	"motley/diagram"
	"motley/formula"
	"motley/model"
)

// checkNames returns the error of a list of names: it asks for a formula that needs none of them.
func checkNames(names []string) api.Errno {
	_, e := formula.Of(diagram.False(), names)
	return e
}

// checkBoth returns the error of the first model that has one.
func checkBoth(a, b api.Model) api.Errno {
	if e := model.Check(a); e != api.OK {
		return e
	}
	return model.Check(b)
}

// Union returns the names of a, and behind them those that only b has.
func Union(a, b api.Model) ([]string, api.Errno) {
	if e := checkBoth(a, b); e != api.OK {
		return nil, e
	}
	names := slices.Concat(model.Names(a), namesOnlyIn(b, a))
	if len(names) > api.MaxFeatures {
		return nil, api.ErrLimit
	}
	return names, api.OK
}

// namesOnlyIn are the names of features of m that are none of other.
func namesOnlyIn(m, other api.Model) []string {
	theirs := model.Names(other)
	return slices.DeleteFunc(model.Names(m), func(s string) bool { return slices.Contains(theirs, s) })
}

// Widen returns the set of a model over names.
func Widen(m api.Model, names []string) (diagram.D, api.Errno) {
	d, e := model.Diagram(m)
	if e != api.OK {
		return diagram.D{}, e
	}
	if e := checkNames(names); e != api.OK {
		return diagram.D{}, e
	}
	var vars []diagram.D // by the numbers of the features in the model
	others := known(^uint32(0), names)
	for _, name := range model.Names(m) {
		i := slices.Index(names, name)
		if i < 0 {
			return diagram.D{}, api.ErrName
		}
		vars = append(vars, diagram.Cube(1<<i, 0))
		others &^= 1 << i
	}
	choose := func(i int, low, high diagram.D) diagram.D { return vars[i].Ite(high, low) }
	return diagram.Fold(d, diagram.False(), diagram.True(), choose).And(diagram.Cube(0, others)), api.OK
}

// Roles returns what names are in a model.
func Roles(m api.Model, names []string) ([]uint8, api.Errno) {
	d, e := model.Diagram(m)
	if e != api.OK {
		return nil, e
	}
	if e := checkNames(names); e != api.OK {
		return nil, e
	}
	var roles []uint8
	features := model.Names(m)
	for _, name := range names {
		roles = append(roles, roleOf(d, slices.Index(features, name)))
	}
	return roles, api.OK
}

// roleOf is the role of a feature in a model with this set; below 0 there is none.
func roleOf(d diagram.D, feature int) uint8 {
	on, off := d.Fixed()
	switch {
	case feature < 0:
		return Absent
	case d.Empty() || has(off, feature):
		return Dead
	case has(on, feature):
		return Core
	}
	return Variable
}
