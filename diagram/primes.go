package diagram

import (
	"cmp"
	"math/bits"
	"slices"

	"motley/api"
)

// What a cube does with a feature. A cube that leaves one feature open less has a lower number.
const (
	digitOff = iota
	digitOn
	digitOpen
	digits
)

// Primes returns the prime cubes.
func (a D) Primes() ([]api.Cube, api.Errno) {
	t := table{a: a, features: slices.Collect(members(a.Support()))}
	if len(t.features) > api.MaxPrimes {
		return nil, api.ErrLimit
	}
	t.fill()
	var l []api.Cube
	for k := range t.inside {
		if t.prime(k) {
			l = append(l, t.cube(k))
		}
	}
	slices.SortFunc(l, compareCubes)
	return l, api.OK
}

func compareCubes(x, y api.Cube) int {
	return cmp.Or(cmp.Compare(cubeSize(x), cubeSize(y)), cmp.Compare(x.On, y.On), cmp.Compare(x.Off, y.Off))
}

func cubeSize(x api.Cube) int { return bits.OnesCount32(x.On) + bits.OnesCount32(x.Off) }

// table is the work of Primes: for each cube of the features on which a set depends, whether it is inside of the
// set. The number of a cube has one digit for each feature. (A prime cube fixes no other features.)
type table struct {
	a        D
	features []int
	inside   []bool
}

// fill goes from low numbers to high ones: a cube with an open feature is inside if both cubes are that fix it.
func (t *table) fill() {
	count := 1
	for range t.features {
		count *= digits
	}
	t.inside = make([]bool, count)
	for k := range t.inside {
		if weight := t.firstOpen(k); weight > 0 {
			t.inside[k] = t.inside[k-(digitOpen-digitOn)*weight] && t.inside[k-(digitOpen-digitOff)*weight]
		} else {
			t.inside[k] = t.a.Has(t.cube(k).On)
		}
	}
}

// firstOpen is the weight of the first digit that leaves its feature open; 0 if there is none.
func (t *table) firstOpen(k int) int {
	weight := 1
	for range t.features {
		if k/weight%digits == digitOpen {
			return weight
		}
		weight *= digits
	}
	return 0
}

// prime reports whether a cube is inside, but none that fixes one feature less.
func (t *table) prime(k int) bool {
	if !t.inside[k] {
		return false
	}
	weight := 1
	for range t.features {
		digit := k / weight % digits
		if digit != digitOpen && t.inside[k+(digitOpen-digit)*weight] {
			return false
		}
		weight *= digits
	}
	return true
}

func (t *table) cube(k int) api.Cube {
	var x api.Cube
	for _, i := range t.features {
		switch k % digits {
		case digitOn:
			x.On |= 1 << i
		case digitOff:
			x.Off |= 1 << i
		}
		k /= digits
	}
	return x
}
