package sample_test

import (
	"math/bits"
	"slices"
	"testing"

	"motley/api"
	"motley/sample"
)

// agreeing is how many products agree with all combinations of a list.
func (f family) agreeing(l ...api.Cube) int {
	count := 0
	for _, c := range f.products {
		if !slices.ContainsFunc(l, func(x api.Cube) bool { return !agrees(c, x) }) {
			count++
		}
	}
	return count
}

// bound is what Bound is to return, found by the definition.
func (f family) bound(k int) []api.Cube {
	all := f.combinations(k)
	slices.SortStableFunc(all, func(a, b api.Cube) int { return f.agreeing(a) - f.agreeing(b) })
	var taken []api.Cube
	for _, x := range all {
		if !slices.ContainsFunc(taken, func(y api.Cube) bool { return f.agreeing(x, y) > 0 }) {
			taken = append(taken, x)
		}
	}
	return taken
}

// P5.6

func TestBound(t *testing.T) {
	each(t, 150, func(f family, k int) {
		l, e := sample.Bound(f.Model, k)
		if want := f.bound(k); !slices.Equal(l, want) || e != api.OK {
			t.Errorf("Bound(%d): %v, %v, want %v for %b", k, l, e, want, f.products)
		}
	})
}

func TestBoundOfPhone(t *testing.T) {
	m := parsed(t, phone)
	for k, want := range map[int][]api.Cube{
		1: {{On: 4}, {On: 8}},
		2: {{On: 5}, {On: 9}, {Off: 12}},
	} {
		if l, e := sample.Bound(m, k); !slices.Equal(l, want) || e != api.OK {
			t.Errorf("Bound(%d): %v, %v", k, l, e)
		}
	}
}

// proves is what Proves is to return, found by the definition.
func (f family) proves(k int, l []api.Cube) bool {
	for i, x := range l {
		x.On &= 1<<24 - 1
		x.Off &= 1<<24 - 1
		if x.On&x.Off != 0 || (x.On|x.Off)>>f.n != 0 || bits.OnesCount32(x.On|x.Off) != k || f.agreeing(x) == 0 {
			return false
		}
		for _, y := range l[:i] {
			y.On &= 1<<24 - 1
			y.Off &= 1<<24 - 1
			if f.agreeing(x, y) > 0 {
				return false
			}
		}
	}
	return true
}

func TestProves(t *testing.T) {
	d := dice(34)
	proved := 0
	each(t, 100, func(f family, k int) {
		all := f.combinations(k)
		for range 20 {
			var l []api.Cube
			for range min(d.roll(4), len(all)) {
				x := all[d.roll(len(all))]
				noise := api.Cube{On: uint32(d.roll(256)) << 24, Off: uint32(d.roll(256)) << 24}
				l = append(l, api.Cube{On: x.On | noise.On, Off: x.Off | noise.Off})
			}
			if len(l) > 0 && d.roll(3) == 0 { // change one bit
				x := &l[d.roll(len(l))]
				at := [...]*uint32{&x.On, &x.Off}[d.roll(2)]
				*at ^= 1 << d.roll(min(f.n+2, 32))
			}
			want := f.proves(k, l)
			if is, e := sample.Proves(f.Model, k, l); is != want || e != api.OK {
				t.Errorf("Proves(%d, %x): %t, %v for %b of %d", k, l, is, e, f.products, f.n)
			}
			if want && len(l) > 1 {
				proved++
			}
		}
	})
	if proved < 100 {
		t.Errorf("only %d lists were certificates", proved)
	}
}

func TestProvesForPhone(t *testing.T) {
	m := parsed(t, phone)
	for _, x := range []struct {
		l    []api.Cube
		k    int
		want bool
	}{
		{nil, 1, true},
		{nil, 3, true},
		{[]api.Cube{{On: 4}, {On: 8}}, 1, true},
		{[]api.Cube{{On: 8}, {On: 4}}, 1, true},
		{[]api.Cube{{On: 4}, {On: 8}}, 2, false},             // of one feature
		{[]api.Cube{{On: 4}, {On: 4}}, 1, false},             // twice the same
		{[]api.Cube{{On: 4}, {On: 16}}, 1, false},            // the product 23 agrees with both
		{[]api.Cube{{On: 8}, {On: 4}, {On: 8}}, 1, false},    // the first and the last are the same
		{[]api.Cube{{On: 12}}, 2, false},                     // not valid
		{[]api.Cube{{Off: 1}}, 1, false},                     // not valid
		{[]api.Cube{{}}, 1, false},                           // of no feature
		{[]api.Cube{{On: 4, Off: 4}}, 1, false},              // fixes a feature twice
		{[]api.Cube{{On: 5, Off: 4}}, 2, false},              // likewise
		{[]api.Cube{{On: 5, Off: 4}}, 3, false},              // likewise
		{[]api.Cube{{On: 4 + 32}}, 1, false},                 // another feature, too
		{[]api.Cube{{On: 4, Off: 1 << 23}}, 1, false},        // likewise
		{[]api.Cube{{On: 4 + 32}}, 2, false},                 // likewise
		{[]api.Cube{{Off: 32}}, 1, false},                    // only another feature
		{[]api.Cube{{On: 4 + 1<<24, Off: 1 << 24}}, 1, true}, // bits that are ignored
		{[]api.Cube{{On: 1 << 24}}, 1, false},                // only such bits
		{[]api.Cube{{On: 4 + 1<<31}, {On: 8}}, 1, true},      // bits that are ignored
		{[]api.Cube{{On: 5}, {On: 9}, {Off: 12}}, 2, true},   // the bound
		{[]api.Cube{{On: 13}, {On: 9, Off: 4}}, 3, false},    // the first one is not valid
		{[]api.Cube{{On: 9, Off: 4}, {Off: 12, On: 1}}, 3, true},
		{slices.Repeat([]api.Cube{{On: 4}}, 1<<16), 1, false},
	} {
		if is, e := sample.Proves(m, x.k, x.l); is != x.want || e != api.OK {
			t.Errorf("Proves(%d, %d combinations, %x ..): %t, %v", x.k, len(x.l), x.l[:min(len(x.l), 3)], is, e)
		}
	}
	if is, e := sample.Proves(parsed(t, "root a\nrequire 0"), 1, []api.Cube{{On: 1}}); is || e != api.OK {
		t.Errorf("Proves for a void model: %t, %v", is, e)
	}
	if is, e := sample.Proves(parsed(t, free(24)), 1, []api.Cube{{On: 1 << 23}, {Off: 1<<23 + 1<<24}}); !is || e != api.OK {
		t.Errorf("Proves with the last feature: %t, %v", is, e)
	}
}
