package diagram_test

import (
	"cmp"
	"math/bits"
	"slices"
	"testing"

	"motley/api"
	"motley/diagram"
)

// primes goes through all cubes of the features, and takes those that the definition names.
func (t table) primes() []api.Cube {
	var l []api.Cube
	for on := range 64 {
		for off := range 64 {
			if on&off != 0 || !t.covers(on, off) {
				continue
			}
			prime := true
			for j := range 6 {
				bit := 1 << j
				prime = prime && !(on&bit != 0 && t.covers(on&^bit, off)) && !(off&bit != 0 && t.covers(on, off&^bit))
			}
			if prime {
				l = append(l, api.Cube{On: config(on), Off: config(off)})
			}
		}
	}
	size := func(x api.Cube) int { return bits.OnesCount32(x.On | x.Off) }
	slices.SortFunc(l, func(x, y api.Cube) int {
		return cmp.Or(size(x)-size(y), cmp.Compare(x.On, y.On), cmp.Compare(x.Off, y.Off))
	})
	return l
}

// covers reports whether the table has all configurations of a cube.
func (t table) covers(on, off int) bool {
	for k := range 64 {
		if k&on == on && k&off == 0 && t>>k&1 == 0 {
			return false
		}
	}
	return true
}

// P1.11, P1.16

func TestPrimes(t *testing.T) {
	for _, x := range tables(60) {
		a := x.set()
		got, e := a.Primes()
		if want := x.primes(); e != api.OK || !slices.Equal(got, want) {
			t.Errorf("primes of %016x: %v, %v, want %v", uint64(x), got, e, want)
		}
		union := diagram.False()
		for _, c := range got {
			union = union.Or(diagram.Cube(c.On, c.Off))
		}
		if !union.Same(a) {
			t.Errorf("the primes of %016x are not all of it", uint64(x))
		}
	}
}

func TestPrimesOfSpecialSets(t *testing.T) {
	cases := []struct {
		name string
		a    diagram.D
		want []api.Cube
	}{
		{"empty", diagram.False(), nil},
		{"full", diagram.True(), []api.Cube{{}}},
		{"the example", chapter(t), []api.Cube{{On: 4}, {On: 3}}},
		{"a feature", variable(t, 23), []api.Cube{{On: 1 << 23}}},
		{"by On, then Off", variable(t, 0).Xor(variable(t, 1)), []api.Cube{{On: 1, Off: 2}, {On: 2, Off: 1}}},
		{"Off only", diagram.Cube(6, 0).Not(), []api.Cube{{Off: 2}, {Off: 4}}},
	}
	for _, x := range cases {
		if got, e := x.a.Primes(); e != api.OK || !slices.Equal(got, x.want) {
			t.Errorf("%s: %v, %v", x.name, got, e)
		}
	}
}

func TestPrimesLimit(t *testing.T) {
	odd, cube := diagram.False(), uint32(0)
	for k := range 13 {
		i := 2*k - k/12 // 0, 2, .. 22, and 23
		odd = odd.Xor(variable(t, i))
		cube |= 1 << i
		got, e := odd.Primes()
		one, e1 := diagram.Cube(cube, 0).Primes()
		if k == 12 {
			if e != api.ErrLimit || len(got) != 0 || e1 != api.ErrLimit || len(one) != 0 {
				t.Errorf("13 features: %d primes, %v; %v, %v", len(got), e, one, e1)
			}
			continue
		}
		if e != api.OK || len(got) != 1<<k {
			t.Errorf("%d features: %d primes, %v", k+1, len(got), e)
		}
		if e1 != api.OK || !slices.Equal(one, []api.Cube{{On: cube}}) {
			t.Errorf("a cube of %d features: %v, %v", k+1, one, e1)
		}
	}
}
