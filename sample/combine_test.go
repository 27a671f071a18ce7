package sample_test

import (
	"slices"
	"testing"

	"motley/api"
	"motley/sample"
)

// P5.1

func TestCombinations(t *testing.T) {
	each(t, 150, func(f family, k int) {
		l, e := sample.Combinations(f.Model, k)
		if want := f.combinations(k); !slices.Equal(l, want) || e != api.OK {
			t.Errorf("Combinations(%d): %v, %v, want %v for %b of %d", k, l, e, want, f.products, f.n)
		}
	})
}

func TestCombinationsOfPhone(t *testing.T) {
	m := parsed(t, phone)
	l, e := sample.Combinations(m, 1)
	if want := []api.Cube{{On: 1}, {On: 2}, {Off: 4}, {On: 4}, {Off: 8}, {On: 8}, {Off: 16}, {On: 16}}; !slices.Equal(l, want) || e != api.OK {
		t.Errorf("Combinations(1): %v, %v", l, e)
	}
	l, _ = sample.Combinations(m, 2)
	for _, set := range []uint32{12, 24} { // with Gps or Colour there is no Basic
		got := slices.DeleteFunc(slices.Clone(l), func(x api.Cube) bool { return x.On+x.Off != set })
		want := []api.Cube{{Off: 12}, {On: 4, Off: 8}, {On: 8, Off: 4}}
		if set == 24 {
			want = []api.Cube{{On: 8, Off: 16}, {On: 16, Off: 8}}
		}
		if !slices.Equal(got, want) {
			t.Errorf("Combinations(2) of the features %b: %v", set, got)
		}
	}
}

// As many combinations as there may be.
func TestCombinationsOfMany(t *testing.T) {
	m := parsed(t, free(24))
	for k, want := range []int{1: 1 + 2*23, 2: 2*23 + 4*253, 3: 4*253 + 8*1771} {
		if k == 0 {
			continue
		}
		l, e := sample.Combinations(m, k)
		if len(l) != want || e != api.OK || !slices.IsSortedFunc(l, inOrder) {
			t.Errorf("Combinations(%d): %d, %v, want %d", k, len(l), e, want)
		}
		if covered, all, e := sample.Coverage(m, k, []uint32{1}); covered != len(sets(24, k)) || all != want || e != api.OK {
			t.Errorf("Coverage(%d): %d of %d, %v", k, covered, all, e)
		}
	}
}

func inOrder(a, b api.Cube) int {
	if a.On+a.Off != b.On+b.Off {
		return int(a.On+a.Off) - int(b.On+b.Off)
	}
	return int(a.On) - int(b.On)
}

func TestMissingAndCoverage(t *testing.T) {
	d := dice(3)
	each(t, 150, func(f family, k int) {
		for count := range 4 {
			l := d.list(f, count)
			want := f.missing(k, l)
			got, e := sample.Missing(f.Model, k, l)
			if !slices.Equal(got, want) || e != api.OK {
				t.Errorf("Missing(%d, %v): %v, %v, want %v for %b", k, l, got, e, want, f.products)
			}
			all := len(f.combinations(k))
			if n, of, e := sample.Coverage(f.Model, k, l); n != all-len(want) || of != all || e != api.OK {
				t.Errorf("Coverage(%d, %v): %d of %d, %v, want %d of %d", k, l, n, of, e, all-len(want), all)
			}
		}
	})
}

func TestCoverageOfPhone(t *testing.T) {
	m := parsed(t, phone)
	for _, x := range []struct {
		l       []uint32
		covered int
	}{{nil, 0}, {[]uint32{11}, 5}, {[]uint32{11, 11 + 32}, 5}, {[]uint32{11, 19}, 7}, {[]uint32{11, 23}, 8}} {
		if n, all, e := sample.Coverage(m, 1, x.l); n != x.covered || all != 8 || e != api.OK {
			t.Errorf("Coverage(%v): %d of %d, %v", x.l, n, all, e)
		}
	}
}

// Fewer features than a combination is to have: there is no combination, and nothing to be covered.
func TestTooFewFeatures(t *testing.T) {
	f := familyOf(t, 2, 1, 3)
	if l, e := sample.Combinations(f.Model, 3); len(l) != 0 || e != api.OK {
		t.Errorf("Combinations: %v, %v", l, e)
	}
	if n, all, e := sample.Coverage(f.Model, 3, []uint32{3}); n != 0 || all != 0 || e != api.OK {
		t.Errorf("Coverage: %d of %d, %v", n, all, e)
	}
	if l, e := sample.Extend(f.Model, 3, []uint32{3, 3}); !slices.Equal(l, []uint32{3, 3}) || e != api.OK {
		t.Errorf("Extend: %v, %v", l, e)
	}
	if l, e := sample.Reduce(f.Model, 3, []uint32{3, 1}); len(l) != 0 || e != api.OK {
		t.Errorf("Reduce: %v, %v", l, e)
	}
	if l, e := sample.Order(f.Model, 3, []uint32{3, 1}); !slices.Equal(l, []int{0, 1}) || e != api.OK {
		t.Errorf("Order: %v, %v", l, e)
	}
	if l, e := sample.Least(f.Model, 3); len(l) != 0 || e != api.OK {
		t.Errorf("Least: %v, %v", l, e)
	}
	if l, e := sample.Bound(f.Model, 3); len(l) != 0 || e != api.OK {
		t.Errorf("Bound: %v, %v", l, e)
	}
}
