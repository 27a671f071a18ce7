package decide

import (
	"slices"

	"motley/api"
	"motley/diagram"
	"motley/model"
)

// family is the model of a session, with the set of its products. Neither is ever changed, so sessions can share it.
type family struct {
	model    api.Model
	products diagram.D
}

// familyOf returns a family with a model of its own.
func familyOf(m api.Model) (family, api.Errno) {
	products, e := model.Diagram(m)
	switch {
	case e != api.OK:
		return family{}, e
	case products.Empty():
		return family{}, api.ErrConflict
	}
	return family{copyOf(m), products}, api.OK
}

// copyOf returns a valid model that shares no memory with m.
func copyOf(m api.Model) api.Model {
	m.Features = slices.Clone(m.Features)
	m.Groups = slices.Clone(m.Groups)
	for k := range m.Groups {
		m.Groups[k].Members = slices.Clone(m.Groups[k].Members)
	}
	m.Attributes = slices.Clone(m.Attributes)
	for k := range m.Attributes {
		m.Attributes[k].Values = slices.Clone(m.Attributes[k].Values)
	}
	m.Requires = copyOfAll(m.Requires)
	m.Limits = slices.Clone(m.Limits)
	return m
}

func copyOfAll(l []api.Expr) []api.Expr {
	l = slices.Clone(l)
	for k := range l {
		l[k].Kids = copyOfAll(l[k].Kids)
	}
	return l
}

// has reports whether the model has a feature, or attribute, with this number among so many.
func has(i, count int) bool { return 0 <= i && i < count }

// setOf is the set of the configurations that agree with all choices.
func setOf(l ...api.Choice) diagram.D {
	on, off := uint32(0), uint32(0)
	for _, x := range l {
		if x.On {
			on |= 1 << x.Feature
		} else {
			off |= 1 << x.Feature
		}
	}
	return diagram.Cube(on, off)
}
