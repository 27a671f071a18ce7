package sample

import (
	"cmp"
	"iter"
	"maps"
	"slices"

	"motley/api"
	"motley/diagram"
)

// Combinations returns the valid combinations of t features.
func Combinations(m api.Model, t int) ([]api.Cube, api.Errno) { return Missing(m, t, nil) }

// Missing returns the valid combinations that a list does not cover.
func Missing(m api.Model, t int, l []uint32) ([]api.Cube, api.Errno) {
	f, list, e := familyWith(m, t, l)
	if e != api.OK {
		return nil, e
	}
	open := f.open()
	f.cover(open, list...)
	return slices.SortedFunc(maps.Keys(open), compare), api.OK
}

// Coverage returns how many valid combinations a list covers, and how many there are.
func Coverage(m api.Model, t int, l []uint32) (covered, all int, e api.Errno) {
	f, list, e := familyWith(m, t, l)
	if e != api.OK {
		return 0, 0, e
	}
	open := f.open()
	all = len(open)
	f.cover(open, list...)
	return all - len(open), all, api.OK
}

// open has all valid combinations; those that are covered are to be deleted from it.
func (f family) open() map[api.Cube]bool {
	open := map[api.Cube]bool{}
	for x := range f.combinations() {
		open[x] = true
	}
	return open
}

// cover deletes what some products cover, and returns what it deleted.
func (f family) cover(open map[api.Cube]bool, l ...uint32) []api.Cube {
	var covered []api.Cube
	for _, c := range l {
		for x := range f.agreeing(c) {
			if open[x] {
				delete(open, x)
				covered = append(covered, x)
			}
		}
	}
	return covered
}

// compare tells which of two combinations stands first in the order of combinations.
func compare(a, b api.Cube) int {
	return cmp.Or(cmp.Compare(a.On|a.Off, b.On|b.Off), cmp.Compare(a.On, b.On))
}

// agrees reports whether a configuration agrees with a combination.
func agrees(c uint32, x api.Cube) bool { return c&(x.On|x.Off) == x.On }

// agreeing yields the combinations with which a product agrees, one for each set of t features. All are valid.
func (f family) agreeing(c uint32) iter.Seq[api.Cube] {
	return func(yield func(api.Cube) bool) {
		for set := range f.sets() {
			if !yield(api.Cube{On: c & set, Off: set &^ c}) {
				return
			}
		}
	}
}

// sets yields the sets of t features, rising.
func (f family) sets() iter.Seq[uint32] {
	return func(yield func(uint32) bool) {
		for set := uint32(1)<<f.t - 1; set < 1<<f.features; set = behind(set) {
			if !yield(set) {
				return
			}
		}
	}
}

// behind is the next number with as many ones: of the lowest run of ones, the last one moves up by one place, and the
// others go back to the place 0.
func behind(set uint32) uint32 {
	low := set & -set
	up := set + low
	return up | (set^up)/low>>2
}

// combinations yields the valid combinations, each with how many configurations agree with it: these are always the
// same multiple of the products, as features that the diagram does not ask for, or that were fixed, have any value.
func (f family) combinations() iter.Seq2[api.Cube, uint32] {
	return func(yield func(api.Cube, uint32) bool) {
		fixing{f.t, yield}.walk(f.products, api.Cube{}, f.features)
	}
}

// fixing is the work of combinations.
type fixing struct {
	left  int // how many features are still to be fixed
	yield func(api.Cube, uint32) bool
}

// walk fixes one more feature, below a given one, in all ways in which a product is left. It returns false if nothing
// more is to be yielded.
func (w fixing) walk(rest diagram.D, x api.Cube, below int) bool {
	s := sharesOf(rest)
	for i := range below {
		off := api.Cube{On: x.On, Off: x.Off | 1<<i}
		on := api.Cube{On: x.On | 1<<i, Off: x.Off}
		if !w.fixed(rest, off, i, s.all-s.with[i]) || !w.fixed(rest, on, i, s.with[i]) {
			return false
		}
	}
	return true
}

// fixed goes on with a cube of which the feature i was fixed last, and with which so many configurations agree.
func (w fixing) fixed(rest diagram.D, x api.Cube, i int, count uint32) bool {
	w.left--
	switch {
	case count == 0:
		return true
	case w.left == 0:
		return w.yield(x, count)
	}
	return w.walk(rest.With(i, x.On>>i&1 == 1), x, i)
}

// shares is how many configurations a set has, and how many of them have each feature.
type shares struct {
	all  uint32
	with [api.MaxFeatures]uint32
}

func sharesOf(d diagram.D) shares {
	full := shares{all: 1 << api.MaxFeatures}
	for i := range full.with {
		full.with[i] = full.all / 2
	}
	return diagram.Fold(d, shares{}, full, joinShares)
}

// joinShares is about a set that asks for the feature i, which its children do not: each has half of its
// configurations with it, and half without it.
func joinShares(i int, low, high shares) shares {
	sum := shares{all: (low.all + high.all) / 2}
	for k := range sum.with {
		sum.with[k] = (low.with[k] + high.with[k]) / 2
	}
	sum.with[i] = high.all / 2
	return sum
}
