package decide_test

import (
	"cmp"
	"math/bits"
	"slices"
	"testing"

	"motley/api"
	"motley/decide"
)

// P4.8

func TestPropagate(t *testing.T) {
	d := dice(11)
	for _, text := range texts(200) {
		x := truthOf(t, text)
		for count := range 9 {
			l := d.choices(x.n, count)
			all := uint32(1)<<x.n - 1
			wantOn, wantOff := all, all
			rest := x.rest(l...)
			for _, c := range rest {
				wantOn &= c
				wantOff &^= c
			}
			on, off, e := decide.Propagate(x.Model, l)
			switch {
			case len(rest) == 0:
				if on != 0 || off != 0 || e != api.ErrConflict {
					t.Errorf("Propagate(%v): %x, %x, %v for %q", l, on, off, e, text)
				}
			case on != wantOn || off != wantOff || e != api.OK:
				t.Errorf("Propagate(%v): %x, %x, %v, want %x, %x for %q", l, on, off, e, wantOn, wantOff, text)
			}
		}
	}
}

func TestPropagateOfMany(t *testing.T) {
	m := parsed(t, wide())
	if on, off, e := decide.Propagate(m, slices.Repeat([]api.Choice{on(23)}, 24)); on != 1|1<<23 || off != 0 || e != api.OK {
		t.Errorf("Propagate: %x, %x, %v", on, off, e)
	}
	if on, off, e := decide.Propagate(m, []api.Choice{on(5), on(6), off(5)}); on != 0 || off != 0 || e != api.ErrConflict {
		t.Errorf("Propagate of opposite choices: %x, %x, %v", on, off, e)
	}
}

// P4.8, P4.9: which error comes first.
func TestChoicesNotValid(t *testing.T) {
	void := parsed(t, "root a\noptional a b\nrequire 0")
	bad := parsed(t, "root a\noptional a b\nrequire 0")
	bad.Features[1].Name = "a"
	check := func(what string, m api.Model, l []api.Choice, want api.Errno) {
		t.Helper()
		if on, off, e := decide.Propagate(m, l); on != 0 || off != 0 || e != want {
			t.Errorf("Propagate of %s: %x, %x, %v, want %v", what, on, off, e, want)
		}
		if out, e := decide.Diagnose(m, l); len(out) != 0 || e != want {
			t.Errorf("Diagnose of %s: %v, %v, want %v", what, out, e, want)
		}
	}
	for _, i := range noFeatures(5) {
		check("no such feature", parsed(t, phone), []api.Choice{on(0), {Feature: i, On: true}}, api.ErrArg)
		check("no such feature, not selected", parsed(t, phone), []api.Choice{{Feature: i}}, api.ErrArg)
	}
	check("too many choices", parsed(t, phone), slices.Repeat([]api.Choice{on(0)}, 25), api.ErrArg)
	check("no such feature in a void model", void, []api.Choice{on(2)}, api.ErrArg)
	check("too many choices for a void model", void, slices.Repeat([]api.Choice{on(0)}, 25), api.ErrArg)
	check("a void model", void, []api.Choice{on(0)}, api.ErrConflict)
	check("a void model, no choices", void, nil, api.ErrConflict)
	check("a model that is not valid", bad, []api.Choice{on(2)}, api.ErrTwice)
	check("no model", api.Model{}, slices.Repeat([]api.Choice{on(0)}, 25), api.ErrArg)
	check("too many features", api.Model{Features: make([]api.Feature, 25)}, []api.Choice{on(-1)}, api.ErrLimit)
}

// P4.9

// diagnosis is that of the chapter, found by trying all lists of indexes.
func (x truth) diagnosis(l []api.Choice) []int {
	var best []int
	for left := range uint32(1) << len(l) {
		var out []int
		var others []api.Choice
		for k, c := range l {
			if left>>k&1 == 1 {
				out = append(out, k)
			} else {
				others = append(others, c)
			}
		}
		shorter := cmp.Or(cmp.Compare(len(out), len(best)), slices.Compare(out, best)) < 0
		if (left == 0 || best == nil || shorter) && len(x.rest(others...)) > 0 {
			best = out
			if left == 0 {
				return nil
			}
		}
	}
	return best
}

func TestDiagnose(t *testing.T) {
	d := dice(13)
	for _, text := range texts(200) {
		x := truthOf(t, text)
		for count := range 9 {
			l := d.choices(x.n, count)
			out, e := decide.Diagnose(x.Model, l)
			if len(x.products) == 0 {
				if len(out) != 0 || e != api.ErrConflict {
					t.Errorf("Diagnose(%v): %v, %v for %q", l, out, e, text)
				}
				continue
			}
			if want := x.diagnosis(l); !slices.Equal(out, want) || e != api.OK {
				t.Errorf("Diagnose(%v): %v, %v, want %v for %q", l, out, e, want, text)
			}
		}
	}
}

func TestDiagnosePhone(t *testing.T) {
	m := parsed(t, phone)
	for _, x := range []struct {
		l    []api.Choice
		want []int
	}{
		{nil, nil},
		{[]api.Choice{on(2), on(4)}, nil},
		{[]api.Choice{on(2), on(3), off(4)}, []int{0}},
		{[]api.Choice{on(3), off(4), on(2)}, []int{2}},
		{[]api.Choice{on(3), on(2)}, []int{0}},
		{[]api.Choice{on(3), off(3)}, []int{0}},
		{[]api.Choice{on(3), off(3), off(3)}, []int{0}},
		{[]api.Choice{on(3), off(3), on(3)}, []int{1}},
		{[]api.Choice{off(0), off(1), off(2)}, []int{0, 1}},
	} {
		if out, e := decide.Diagnose(m, x.l); !slices.Equal(out, x.want) || e != api.OK {
			t.Errorf("Diagnose(%v): %v, %v, want %v", x.l, out, e, x.want)
		}
	}
}

// As many choices as there may be: few are left out rather than many, whatever their places are.
func TestDiagnoseMany(t *testing.T) {
	m := parsed(t, wide())
	half := append(slices.Repeat([]api.Choice{on(7)}, 12), slices.Repeat([]api.Choice{off(7)}, 12)...)
	fewLast := append(slices.Repeat([]api.Choice{on(7)}, 13), slices.Repeat([]api.Choice{off(7)}, 11)...)
	fewFirst := append(slices.Repeat([]api.Choice{on(7)}, 11), slices.Repeat([]api.Choice{off(7)}, 13)...)
	var want [24]int
	for k := range want {
		want[k] = k
	}
	for what, x := range map[string]struct {
		l    []api.Choice
		want []int
	}{
		"as many":              {half, want[:12]},
		"fewer at the end":     {fewLast, want[13:]},
		"fewer at the front":   {fewFirst, want[:11]},
		"all of them":          {slices.Repeat([]api.Choice{off(0)}, 24), want[:]},
		"none":                 {slices.Repeat([]api.Choice{on(0)}, 24), nil},
		"all but the last one": {append(slices.Repeat([]api.Choice{off(0)}, 23), on(0)), want[:23]},
		"the last one":         {append(slices.Repeat([]api.Choice{on(0)}, 23), off(0)), want[23:]},
	} {
		if out, e := decide.Diagnose(m, x.l); !slices.Equal(out, x.want) || e != api.OK {
			t.Errorf("Diagnose of %s: %v, %v, want %v", what, out, e, x.want)
		}
	}
	pairs := parsed(t, wide()+"require F22 ^ F1\nrequire F23 ^ F2\n")
	l := []api.Choice{on(23), on(22), on(1), on(2), on(20)}
	if out, e := decide.Diagnose(pairs, l); !slices.Equal(out, []int{0, 1}) || e != api.OK {
		t.Errorf("Diagnose of pairs: %v, %v", out, e)
	}
}

// P4.10

func TestRepair(t *testing.T) {
	d := dice(17)
	for _, text := range texts(200) {
		x := truthOf(t, text)
		all := uint32(1)<<x.n - 1
		for range 20 {
			to := uint32(d.roll(1 << 32))
			c, count, e := decide.Repair(x.Model, to)
			if len(x.products) == 0 {
				if c != 0 || count != 0 || e != api.ErrConflict {
					t.Errorf("Repair(%x): %x, %d, %v for %q", to, c, count, e, text)
				}
				continue
			}
			distance := func(c uint32) int { return bits.OnesCount32((c ^ to) & all) }
			want := slices.MinFunc(x.products, func(a, b uint32) int { return cmp.Compare(distance(a), distance(b)) })
			if c != want || count != distance(want) || e != api.OK {
				t.Errorf("Repair(%x): %x, %d, %v, want %x, %d for %q", to, c, count, e, want, distance(want), text)
			}
		}
	}
}

func TestRepairPhone(t *testing.T) {
	m := parsed(t, phone)
	for c, want := range map[uint32]struct {
		c     uint32
		count int
	}{
		4: {23, 3}, 23: {23, 0}, 0: {11, 3}, 3: {11, 1}, 31: {23, 1}, 27: {11, 1}, 0xffffffe0: {11, 3}, 0xffffffff: {23, 1},
	} {
		if got, count, e := decide.Repair(m, c); got != want.c || count != want.count || e != api.OK {
			t.Errorf("Repair(%x): %d, %d, %v, want %v", c, got, count, e, want)
		}
	}
	all := parsed(t, wide())
	if c, count, e := decide.Repair(all, 0xfffffffe); c != 0xffffff || count != 1 || e != api.OK {
		t.Errorf("Repair with all features: %x, %d, %v", c, count, e)
	}
}

func TestRepairErrors(t *testing.T) {
	void := parsed(t, "root a\noptional a b\nrequire 0")
	if c, count, e := decide.Repair(void, 1); c != 0 || count != 0 || e != api.ErrConflict {
		t.Errorf("Repair in a void model: %d, %d, %v", c, count, e)
	}
	void.Features[1].Name = ""
	if c, count, e := decide.Repair(void, 1); c != 0 || count != 0 || e != api.ErrName {
		t.Errorf("Repair in a model that is not valid: %d, %d, %v", c, count, e)
	}
}
