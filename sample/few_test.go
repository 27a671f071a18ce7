package sample_test

import (
	"slices"
	"testing"

	"motley/api"
	"motley/sample"
)

// P5.3

func TestReduce(t *testing.T) {
	d := dice(21)
	each(t, 100, func(f family, k int) {
		for _, count := range []int{0, 1, 3, 6} {
			l := d.list(f, count)
			want := f.plain(l)
			for i := len(want) - 1; i >= 0; i-- {
				others := slices.Delete(slices.Clone(want), i, i+1)
				if len(f.missing(k, others)) == len(f.missing(k, l)) {
					want = others
				}
			}
			if got, e := sample.Reduce(f.Model, k, l); !slices.Equal(got, want) || e != api.OK {
				t.Errorf("Reduce(%d, %v): %v, %v, want %v for %b", k, l, got, e, want, f.products)
			}
		}
	})
}

func TestReduceOfPhone(t *testing.T) {
	m := parsed(t, phone)
	for _, x := range []struct {
		l, want []uint32
	}{
		{nil, nil},
		{[]uint32{19}, []uint32{19}},
		{[]uint32{19, 19 + 32}, []uint32{19}},
		{[]uint32{19, 11, 23}, []uint32{11, 23}},
		{[]uint32{23, 11, 19}, []uint32{23, 11}},
		{[]uint32{11, 23, 19, 11, 23}, []uint32{11, 23}},
	} {
		if l, e := sample.Reduce(m, 1, x.l); !slices.Equal(l, x.want) || e != api.OK {
			t.Errorf("Reduce(%v): %v, %v", x.l, l, e)
		}
	}
}

// least is what Least is to return, found by trying all lists of products.
func (f family) least(k int) []uint32 {
	all := f.combinations(k)
	var best []uint32
	for chosen := range 1 << len(f.products) {
		var l []uint32
		for i, c := range f.products {
			if chosen>>i&1 == 1 {
				l = append(l, c)
			}
		}
		shorter := len(l) < len(best) || len(l) == len(best) && slices.Compare(l, best) < 0
		if !slices.ContainsFunc(all, func(x api.Cube) bool { return !covers(l, x) }) && (best == nil || shorter) {
			best = l
			if chosen == 0 {
				return nil
			}
		}
	}
	return best
}

// P5.5

func TestLeast(t *testing.T) {
	each(t, 60, func(f family, k int) {
		if len(f.products) > 10 {
			return
		}
		l, e := sample.Least(f.Model, k)
		if want := f.least(k); !slices.Equal(l, want) || e != api.OK {
			t.Errorf("Least(%d): %v, %v, want %v for %b", k, l, e, want, f.products)
		}
	})
}

func TestLeastOfSome(t *testing.T) {
	var each []uint32 // 16 products, each of which has a feature of its own
	for i := 1; i <= 16; i++ {
		each = append(each, 1<<i+1)
	}
	for _, x := range []struct {
		f    family
		k    int
		want []uint32
	}{
		{familyOf(t, 17, each...), 1, each},
		{familyOf(t, 5, 11, 19, 23), 1, []uint32{11, 23}},
		{familyOf(t, 5, 11, 19, 23), 2, []uint32{11, 19, 23}},
		{familyOf(t, 3), 1, nil},
		{familyOf(t, 1, 1), 1, []uint32{1}},
		{familyOf(t, 3, 1, 3, 5, 7), 1, []uint32{1, 7}},
		{familyOf(t, 3, 1, 3, 5, 7), 2, []uint32{1, 3, 5, 7}},
		{familyOf(t, 4, 1, 3, 5, 7, 9, 11, 13, 15), 2, []uint32{1, 7, 11, 13}},
	} {
		if l, e := sample.Least(x.f.Model, x.k); !slices.Equal(l, x.want) || e != api.OK {
			t.Errorf("Least(%d): %v, %v for %v", x.k, l, e, x.f.products)
		}
	}
}
