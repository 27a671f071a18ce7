package sample_test

import (
	"math"
	"math/bits"
	"slices"
	"testing"

	"motley/api"
	"motley/model"
	"motley/sample"
)

// P5.7

func TestSpread(t *testing.T) {
	for _, f := range families(t, 100) {
		for k := range 40 {
			var want []uint32
			for i := range min(k, k*len(f.products)) {
				c := f.products[i*len(f.products)/k]
				if !slices.Contains(want, c) {
					want = append(want, c)
				}
			}
			if l, e := sample.Spread(f.Model, k); !slices.Equal(l, want) || e != api.OK {
				t.Errorf("Spread(%d): %v, %v, want %v of %v", k, l, e, want, f.products)
			}
		}
	}
}

func TestSpreadMany(t *testing.T) {
	m := parsed(t, free(24, "require F1 | F2 | F3 | F4"))
	analysis, _ := model.Analyse(m)
	l, e := sample.Spread(m, api.MaxSample)
	if len(l) != api.MaxSample || e != api.OK || !slices.IsSorted(l) {
		t.Fatalf("Spread: %d products, %v", len(l), e)
	}
	for _, i := range []int{0, 1, 2, 3, 1000, 4094, 4095} {
		rank := uint64(i) * analysis.Count / api.MaxSample
		if want, _ := model.Unrank(m, rank); l[i] != want {
			t.Errorf("Spread: element %d is %x, want %x", i, l[i], want)
		}
	}
}

// diverse is what Diverse is to return, found by the definition.
func (f family) diverse(k int) []uint32 {
	var l []uint32
	for range min(k, len(f.products)) {
		next, most := uint32(0), -1
		for _, c := range f.products {
			least := math.MaxInt
			for _, other := range l {
				least = min(least, bits.OnesCount32(c^other))
			}
			if least > most && !slices.Contains(l, c) {
				next, most = c, least
			}
		}
		l = append(l, next)
	}
	return l
}

func TestDiverse(t *testing.T) {
	for _, f := range families(t, 100) {
		for _, k := range []int{0, 1, 2, 3, 5, 8, 31, 32, 33, api.MaxSample} {
			want := f.diverse(k)
			if l, e := sample.Diverse(f.Model, k); !slices.Equal(l, want) || e != api.OK {
				t.Errorf("Diverse(%d): %v, %v, want %v of %v", k, l, e, want, f.products)
			}
		}
	}
}

func TestDiverseMany(t *testing.T) {
	m := parsed(t, free(17))
	l, e := sample.Diverse(m, api.MaxSample)
	if len(l) != api.MaxSample || e != api.OK || !slices.Equal(l[:2], []uint32{1, 1<<17 - 1}) {
		t.Fatalf("Diverse: %d products, %v", len(l), e)
	}
	slices.Sort(l)
	if len(slices.Compact(l)) != api.MaxSample {
		t.Error("Diverse: a product stands in it twice")
	}
}

// The products of a result stand as they were chosen.
func TestDiverseOrder(t *testing.T) {
	f := familyOf(t, 5, 1, 3, 5, 31)
	if l, e := sample.Diverse(f.Model, 4); !slices.Equal(l, []uint32{1, 31, 3, 5}) || e != api.OK {
		t.Errorf("Diverse: %v, %v", l, e)
	}
}

func TestNothingToChoose(t *testing.T) {
	for _, k := range []int{0, -1, math.MinInt} {
		for what, m := range map[string]api.Model{"the phone": parsed(t, phone), "nothing": parsed(t, "root a\nrequire 0")} {
			if l, e := sample.Spread(m, k); len(l) != 0 || e != api.OK {
				t.Errorf("Spread(%d) of %s: %v, %v", k, what, l, e)
			}
			if l, e := sample.Diverse(m, k); len(l) != 0 || e != api.OK {
				t.Errorf("Diverse(%d) of %s: %v, %v", k, what, l, e)
			}
		}
	}
	void := parsed(t, "root a\nrequire 0")
	if l, e := sample.Spread(void, 7); len(l) != 0 || e != api.OK {
		t.Errorf("Spread of nothing: %v, %v", l, e)
	}
	if l, e := sample.Diverse(void, 7); len(l) != 0 || e != api.OK {
		t.Errorf("Diverse of nothing: %v, %v", l, e)
	}
}
