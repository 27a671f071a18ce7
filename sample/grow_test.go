package sample_test

import (
	"slices"
	"testing"

	"motley/api"
	"motley/sample"
)

// extension is what Extend is to return, found by the definition.
func (f family) extension(k int, l []uint32) []uint32 {
	l = f.plain(l)
	for len(f.missing(k, l)) > 0 {
		gain := func(c uint32) int { return f.gain(k, c, l) }
		l = append(l, slices.MaxFunc(f.products, func(a, b uint32) int { return gain(a) - gain(b) }))
	}
	return l
}

// P5.2

func TestExtend(t *testing.T) {
	d := dice(5)
	each(t, 100, func(f family, k int) {
		for count := range 3 {
			l := d.list(f, count)
			want := f.extension(k, l)
			if got, e := sample.Extend(f.Model, k, l); !slices.Equal(got, want) || e != api.OK {
				t.Errorf("Extend(%d, %v): %v, %v, want %v for %b", k, l, got, e, want, f.products)
			}
		}
	})
}

func TestExtendPhone(t *testing.T) {
	m := parsed(t, phone)
	for _, x := range []struct {
		l, want []uint32
	}{
		{nil, []uint32{11, 23}},
		{[]uint32{19}, []uint32{19, 11, 23}},
		{[]uint32{19 + 32, 19 + 1<<31}, []uint32{19, 19, 11, 23}},
		{[]uint32{23, 11}, []uint32{23, 11}},
		{[]uint32{23, 23, 23, 11, 19}, []uint32{23, 23, 23, 11, 19}},
	} {
		if l, e := sample.Extend(m, 1, x.l); !slices.Equal(l, x.want) || e != api.OK {
			t.Errorf("Extend(%v): %v, %v", x.l, l, e)
		}
		if l, e := sample.Renew(m, 1, x.l); !slices.Equal(l, x.want) || e != api.OK {
			t.Errorf("Renew(%v): %v, %v", x.l, l, e)
		}
	}
}

// The list is returned however long the sample gets.
func TestExtendLongList(t *testing.T) {
	m := parsed(t, phone)
	long := slices.Repeat([]uint32{19}, api.MaxSample)
	want := append(slices.Clone(long), 11, 23)
	if l, e := sample.Extend(m, 1, long); !slices.Equal(l, want) || e != api.OK {
		t.Errorf("Extend: %d, %v", len(l), e)
	}
	if l, e := sample.Renew(m, 1, long); !slices.Equal(l, want) || e != api.OK {
		t.Errorf("Renew: %d, %v", len(l), e)
	}
}

// As many products as are gone through, of as many features as there may be.
func TestExtendMany(t *testing.T) {
	m := parsed(t, free(24, "require F1 & F2 & F3 & F4 & F5 & F6 & F7"))
	l, e := sample.Extend(m, 2, nil)
	if missing, _ := sample.Missing(m, 2, l); e != api.OK || len(missing) != 0 {
		t.Errorf("Extend: %v, %v, does not cover %v", l, e, missing)
	}
	if len(l) < 2 || l[0] != 0xff || l[1] != 0xffffff { // the least product, and then its opposite
		t.Errorf("Extend: %x", l)
	}
}

func TestRenew(t *testing.T) {
	d := dice(8)
	each(t, 100, func(f family, k int) {
		var l, own []uint32
		for range 4 {
			c := uint32(d.roll(1 << 32))
			l = append(l, c)
			if plain := c & (1<<f.n - 1); slices.Contains(f.products, plain) {
				own = append(own, plain)
			}
		}
		want := f.extension(k, own)
		if got, e := sample.Renew(f.Model, k, l); !slices.Equal(got, want) || e != api.OK {
			t.Errorf("Renew(%d, %v): %v, %v, want %v for %b", k, l, got, e, want, f.products)
		}
	})
	if l, e := sample.Renew(parsed(t, phone), 1, []uint32{15, 19 + 32, 0, 15 + 32}); !slices.Equal(l, []uint32{19, 11, 23}) || e != api.OK {
		t.Errorf("Renew: %v, %v", l, e)
	}
}

// P5.4

func TestOrder(t *testing.T) {
	d := dice(13)
	each(t, 100, func(f family, k int) {
		for _, count := range []int{0, 1, 2, 5} {
			l := d.list(f, count)
			plain := f.plain(l)
			var want []int
			var before []uint32
			for range plain {
				next, most := 0, -1
				for i, c := range plain {
					if gain := f.gain(k, c, before); gain > most && !slices.Contains(want, i) {
						next, most = i, gain
					}
				}
				want = append(want, next)
				before = append(before, plain[next])
			}
			if got, e := sample.Order(f.Model, k, l); !slices.Equal(got, want) || e != api.OK {
				t.Errorf("Order(%d, %v): %v, %v, want %v for %b", k, l, got, e, want, f.products)
			}
		}
	})
}

func TestOrderOfPhone(t *testing.T) {
	m := parsed(t, phone)
	for _, x := range []struct {
		l    []uint32
		want []int
	}{
		{nil, nil},
		{[]uint32{19, 11, 23}, []int{0, 1, 2}},
		{[]uint32{19, 19 + 32, 11, 23}, []int{0, 2, 3, 1}},
		{[]uint32{23, 23, 23, 11}, []int{0, 3, 1, 2}},
		{[]uint32{11, 19, 23}, []int{0, 2, 1}},
	} {
		if l, e := sample.Order(m, 1, x.l); !slices.Equal(l, x.want) || e != api.OK {
			t.Errorf("Order(%v): %v, %v", x.l, l, e)
		}
	}
}
