package sample_test

import (
	"slices"
	"testing"

	"motley/api"
	"motley/sample"
)

// isSample reports whether a list has only products, and covers all valid combinations.
func (f family) isSample(k int, l []uint32) bool {
	alien := slices.ContainsFunc(l, func(c uint32) bool { return !slices.Contains(f.products, c) })
	return !alien && len(f.missing(k, l)) == 0
}

// P5, P5.9

func TestSamplesCover(t *testing.T) {
	d := dice(55)
	each(t, 80, func(f family, k int) {
		l := d.list(f, d.roll(3))
		extended, _ := sample.Extend(f.Model, k, l)
		if !f.isSample(k, extended) || !slices.Equal(extended[:min(len(l), len(extended))], f.plain(l)) {
			t.Errorf("Extend(%d, %v): %v for %b", k, l, extended, f.products)
		}
		if len(f.products) > 16 {
			return
		}
		least, _ := sample.Least(f.Model, k)
		bound, _ := sample.Bound(f.Model, k)
		none, _ := sample.Extend(f.Model, k, nil)
		reduced, _ := sample.Reduce(f.Model, k, f.products)
		if !f.isSample(k, least) || len(least) > min(len(extended), len(none), len(reduced)) || len(least) < len(bound) {
			t.Errorf("Least(%d): %v, but Bound %v, Extend %v for %b", k, least, bound, none, f.products)
		}
	})
}

// P5.10

func TestReducedLists(t *testing.T) {
	d := dice(89)
	each(t, 80, func(f family, k int) {
		l := d.list(f, 1+d.roll(6))
		reduced, _ := sample.Reduce(f.Model, k, l)
		if !slices.Equal(f.missing(k, reduced), f.missing(k, l)) {
			t.Errorf("Reduce(%d, %v): %v covers less for %b", k, l, reduced, f.products)
		}
		for i := range reduced {
			others := slices.Delete(slices.Clone(reduced), i, i+1)
			if len(f.missing(k, others)) == len(f.missing(k, l)) {
				t.Errorf("Reduce(%d, %v): %v needs no element %d for %b", k, l, reduced, i, f.products)
			}
		}
		for i, c := range f.plain(l) {
			others := slices.Delete(f.plain(l), i, i+1)
			if len(f.missing(k, others)) > len(f.missing(k, l)) && !slices.Contains(reduced, c) {
				t.Errorf("Reduce(%d, %v): %v lacks %d for %b", k, l, reduced, c, f.products)
			}
		}
	})
}

// P5.11

func TestOrderedLists(t *testing.T) {
	d := dice(144)
	each(t, 80, func(f family, k int) {
		l := f.plain(d.list(f, 1+d.roll(6)))
		order, _ := sample.Order(f.Model, k, l)
		if sorted := slices.Sorted(slices.Values(order)); len(order) != len(l) || len(slices.Compact(sorted)) != len(l) {
			t.Errorf("Order(%d, %v): %v", k, l, order)
			return
		}
		var before []uint32
		last := len(f.combinations(k))
		for i, next := range order {
			gain := f.gain(k, l[next], before)
			for _, c := range l {
				if i == 0 && f.gain(k, c, nil) > gain {
					t.Errorf("Order(%d, %v): %v, but %d covers more", k, l, order, c)
				}
			}
			if gain > last {
				t.Errorf("Order(%d, %v): %v, with a gain of %d behind %d", k, l, order, gain, last)
			}
			last = gain
			before = append(before, l[next])
		}
	})
}

// P5.12

func TestBoundsAreProved(t *testing.T) {
	each(t, 80, func(f family, k int) {
		bound, _ := sample.Bound(f.Model, k)
		if is, e := sample.Proves(f.Model, k, bound); !is || e != api.OK {
			t.Errorf("Proves(%d, %v): %t, %v for %b", k, bound, is, e, f.products)
		}
		all := append(f.combinations(k), api.Cube{}, api.Cube{On: 1, Off: 1}, api.Cube{On: 1 << 23})
		for i := 0; i < len(all); i += 1 + len(all)/200 {
			longer := append(slices.Clone(bound), all[i])
			if is, e := sample.Proves(f.Model, k, longer); is || e != api.OK {
				t.Errorf("Proves(%d, %v): %t, %v for %b", k, longer, is, e, f.products)
			}
		}
	})
}

// P5.13

func TestMoreFeatures(t *testing.T) {
	each(t, 80, func(f family, k int) {
		l, _ := sample.Extend(f.Model, k, nil)
		if k == 1 || f.n < k {
			return
		}
		if missing, e := sample.Missing(f.Model, k-1, l); len(missing) != 0 || e != api.OK {
			t.Errorf("Missing(%d) of a sample for %d: %v, %v for %b", k-1, k, missing, e, f.products)
		}
	})
}

// P5.14

func TestTablesAreRead(t *testing.T) {
	d := dice(233)
	for _, f := range families(t, 80) {
		l := d.list(f, d.roll(8))
		text, _ := sample.Table(f.Model, l)
		if got, line, e := sample.Read(f.Model, text); !slices.Equal(got, f.plain(l)) || line != 0 || e != api.OK {
			t.Errorf("Read(Table(%v)): %v, line %d, %v", l, got, line, e)
		}
	}
}
