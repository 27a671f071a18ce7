package diagram

import "motley/api"

// Size is the number of the nodes.
func (a D) Size() int { return int(a.size()) }

// Nodes lists the nodes, children before their parents, and returns the place of a itself.
func (a D) Nodes() ([]api.Decision, int) {
	l := make([]api.Decision, 0, a.size())
	for k := range a.size() {
		n := a.at(k + firstPlace)
		l = append(l, api.Decision{Var: int(n.feature), Low: int(n.low), High: int(n.high)})
	}
	return l, int(a.place)
}

// Of is the set that a list and a root describe in the way of Nodes.
func Of(l []api.Decision, root int) (D, api.Errno) {
	if len(l) > api.MaxDecisions {
		return D{}, api.ErrLimit
	}
	d := listed{l}
	for k := range l {
		if !d.fits(k) {
			return D{}, api.ErrForm
		}
	}
	if root < 0 || root > len(l)+1 {
		return D{}, api.ErrRange
	}
	return grow(root, d.split), api.OK
}

// Fold returns empty or full for these sets; for others it joins, node by node, what was returned for the children,
// and returns what was returned last.
func Fold[T any](a D, empty, full T, join func(i int, low, high T) T) (result T) {
	defer func() {
		_ = recover() // join is the caller's: it may be nil, or panic itself
	}()
	got := make([]T, 0, a.size()+firstPlace)
	got = append(got, empty, full)
	for k := range a.size() {
		n := a.at(k + firstPlace)
		got = append(got, join(int(n.feature), got[n.low], got[n.high]))
	}
	return got[a.place]
}

// listed is the work of Of. Its keys are places in a list that need not be as Nodes makes it.
type listed struct{ l []api.Decision }

func (d listed) fits(k int) bool {
	e := d.l[k]
	if e.Var < 0 || e.Var >= featureCount {
		return false
	}
	for _, child := range [2]int{e.Low, e.High} {
		if child < 0 || child > k+1 {
			return false
		}
		if child >= int(firstPlace) && d.at(child).Var <= e.Var {
			return false
		}
	}
	return true
}

func (d listed) at(place int) api.Decision { return d.l[place-int(firstPlace)] }

func (d listed) split(place int) (int, int, int) {
	if place < int(firstPlace) {
		return featureCount + place, place, place
	}
	e := d.at(place)
	return e.Var, e.Low, e.High
}
