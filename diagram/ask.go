package diagram

// Has reports whether the set has the configuration.
func (a D) Has(c uint32) bool {
	place := a.place
	for place >= firstPlace {
		n := a.at(place)
		place = n.low
		if c>>n.feature&1 == 1 {
			place = n.high
		}
	}
	return place == fullPlace
}

// Empty reports whether the set has no configuration.
func (a D) Empty() bool { return a.place == emptyPlace }

// Full reports whether the set has all configurations.
func (a D) Full() bool { return a.place == fullPlace }

// Same reports whether both sets are equal.
func (a D) Same(b D) bool { return a == b }

// Within reports whether all of a is in b.
func (a D) Within(b D) bool { return a.Ite(b, True()).Full() }

// Meets reports whether both sets have a configuration in common.
func (a D) Meets(b D) bool { return !a.And(b).Empty() }

// Support is the set of the features on which a depends.
func (a D) Support() uint32 {
	set := uint32(0)
	for p := range a.size() {
		set |= 1 << a.at(p+firstPlace).feature
	}
	return set
}

// Fixed returns the features that all configurations of a have, and those that none has.
func (a D) Fixed() (on, off uint32) {
	if a.Empty() {
		return 0, 0
	}
	f := Fold(a, fixed{every, every}, fixed{}, joinFixed)
	return f.on, f.off
}

// fixed has the features that are selected in all configurations of a set, and in none. The empty set has every
// feature in both, so that it takes nothing from what the other child has.
type fixed struct{ on, off uint32 }

func joinFixed(i int, low, high fixed) fixed {
	low.off |= 1 << i
	high.on |= 1 << i
	return fixed{low.on & high.on, low.off & high.off}
}
