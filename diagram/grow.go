package diagram

// work is a list of nodes that is being made. Nodes that are equal get the same place.
type work struct {
	code  []byte
	found map[node]uint32
}

func newWork() *work { return &work{found: map[node]uint32{}} }

// node returns the place of the set with this feature and these children.
func (w *work) node(feature int, low, high uint32) uint32 {
	if low == high {
		return low
	}
	n := node{uint8(feature), low, high}
	if p, is := w.found[n]; is {
		return p
	}
	p := uint32(len(w.found)) + firstPlace
	w.found[n] = p
	w.code = append(w.code, n.feature)
	w.code = appendPlace(w.code, low)
	w.code = appendPlace(w.code, high)
	return p
}

// set returns the set at a place that was finished last.
func (w *work) set(place uint32) D { return D{place, string(w.code)} }

// grow makes the set of the key top. Of each key split tells the least feature on which its set may depend, and the
// keys that arise when it is fixed; or, for the empty and the full set, the number of features plus the place.
//
// Each key is a set that arises from the first one by fixing features, and low goes before high: so there is no
// node that the set does not have, and they are finished in the order that Nodes promises.
func grow[K comparable](top K, split func(K) (feature int, low, high K)) D {
	w := newWork()
	finished := map[K]uint32{}
	var visit func(K) uint32
	visit = func(k K) uint32 {
		feature, low, high := split(k)
		if feature >= featureCount {
			return uint32(feature - featureCount)
		}
		if p, is := finished[k]; is {
			return p
		}
		l := visit(low)
		h := visit(high)
		p := w.node(feature, l, h)
		finished[k] = p
		return p
	}
	return w.set(visit(top))
}
