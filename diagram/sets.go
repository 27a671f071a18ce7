package diagram

import "motley/api"

// False is the empty set.
func False() D { return D{} }

// True is the set of all configurations.
func True() D { return D{place: fullPlace} }

// Var is the set of the configurations in which the feature i is selected.
func Var(i int) (D, api.Errno) {
	if i < 0 || i >= featureCount {
		return D{}, api.ErrRange
	}
	return Cube(1<<i, 0), api.OK
}

// Cube is the set of the configurations that have all features of on, and none of off.
func Cube(on, off uint32) D {
	if on&off&every != 0 {
		return False()
	}
	w := newWork()
	place := fullPlace
	for k := range featureCount {
		i := featureCount - 1 - k // children are finished before their parents
		switch {
		case on>>i&1 == 1:
			place = w.node(i, emptyPlace, place)
		case off>>i&1 == 1:
			place = w.node(i, place, emptyPlace)
		}
	}
	return w.set(place)
}

// Not is the complement.
func (a D) Not() D {
	w := newWork()
	return w.set(Fold(a, fullPlace, emptyPlace, w.node))
}

// And is the intersection.
func (a D) And(b D) D { return a.Ite(b, False()) }

// Or is the union.
func (a D) Or(b D) D { return a.Ite(True(), b) }

// Xor has what is in just one of both.
func (a D) Xor(b D) D { return a.Ite(b.Not(), b) }

// Ite has what is in a and b, or not in a but in c.
func (a D) Ite(b, c D) D {
	switch {
	case a.Full() || b.Same(c):
		return b
	case a.Empty():
		return c
	case b.Full() && c.Empty():
		return a
	}
	choice := choosing{a, b, c}
	return grow(trio{a.place, b.place, c.place}, choice.split)
}

// AndAll is the intersection of all.
func AndAll(l ...D) D {
	common := True()
	for _, d := range l {
		common = common.And(d)
	}
	return common
}

// OrAll is the union of all.
func OrAll(l ...D) D {
	union := False()
	for _, d := range l {
		union = union.Or(d)
	}
	return union
}

// With is the set with the feature i fixed.
func (a D) With(i int, on bool) D {
	if i < 0 || a.Support()>>i&1 == 0 {
		return a
	}
	f := fixing{a, uint8(i), on}
	return grow(a.place, f.split)
}

// Exists has what can be changed in these features alone so that it is in a.
func (a D) Exists(features uint32) D {
	for i := range members(features) {
		a = a.With(i, false).Or(a.With(i, true))
	}
	return a
}

// Forall has what is in a however it is changed in these features alone.
func (a D) Forall(features uint32) D { return a.Not().Exists(features).Not() }

// choosing is the work of Ite.
type choosing struct{ a, b, c D }

// trio has the places of three sets that are looked at together.
type trio struct{ a, b, c uint32 }

func (o choosing) split(k trio) (int, trio, trio) {
	if p, is := k.decided(); is {
		return featureCount + int(p), k, k
	}
	a, b, c := o.a.at(k.a), o.b.at(k.b), o.c.at(k.c)
	i := min(a.feature, b.feature, c.feature)
	low, high := k, k
	if a.feature == i {
		low.a, high.a = a.low, a.high
	}
	if b.feature == i {
		low.b, high.b = b.low, b.high
	}
	if c.feature == i {
		low.c, high.c = c.low, c.high
	}
	return int(i), low.plain(), high.plain()
}

// plain forgets a set that is not chosen, so that fewer trios differ.
func (k trio) plain() trio {
	switch k.a {
	case emptyPlace:
		k.b = emptyPlace
	case fullPlace:
		k.c = emptyPlace
	}
	return k
}

// decided tells whether the chosen set is empty or full, whatever else is fixed. (Places of nodes of two
// diagrams say nothing about each other.)
func (k trio) decided() (uint32, bool) {
	switch {
	case k.a == fullPlace || k.b == k.c:
		return k.b, k.b < firstPlace
	case k.a == emptyPlace:
		return k.c, k.c < firstPlace
	}
	return 0, false
}

// fixing is the work of With.
type fixing struct {
	a       D
	feature uint8
	on      bool
}

func (f fixing) split(place uint32) (int, uint32, uint32) {
	n := f.a.at(place)
	if n.feature == f.feature {
		place = n.low
		if f.on {
			place = n.high
		}
		n = f.a.at(place)
	}
	if n.feature == featureCount {
		return featureCount + int(place), place, place
	}
	return int(n.feature), n.low, n.high
}
