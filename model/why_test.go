package model_test

import (
	"slices"
	"testing"

	"motley/api"
	"motley/diagram"
	"motley/model"
)

// P3.8, P3.13

// wantWhy fails if an explanation, or the error that there is none, is not that of the chapter.
func wantWhy(t *testing.T, what string, x truth, set func(c uint32) bool, got []int, e api.Errno) {
	t.Helper()
	want, is := x.explanation(set, x.allRules())
	if !is {
		wantNone(t, what, x.Model, got, e)
		return
	}
	if !slices.Equal(got, want) || e != api.OK {
		t.Errorf("%s: %v, %v, want %v for %s", what, got, e, want, shaped(x.Model))
	}
	wantMinimal(t, what, x, set, got)
}

func wantNone(t *testing.T, what string, m api.Model, got []int, e api.Errno) {
	t.Helper()
	if e != api.ErrNone || len(got) != 0 {
		t.Errorf("%s: %v, %v for %s", what, got, e, shaped(m))
	}
}

// wantMinimal fails if rules do not exclude a set, or do so without one of them.
func wantMinimal(t *testing.T, what string, x truth, set func(c uint32) bool, rules []int) {
	t.Helper()
	if !x.excluded(set, rules) {
		t.Errorf("%s: %v excludes nothing for %s", what, rules, shaped(x.Model))
	}
	for k := range rules {
		if x.excluded(set, slices.Delete(slices.Clone(rules), k, k+1)) {
			t.Errorf("%s: %v needs no %d for %s", what, rules, rules[k], shaped(x.Model))
		}
	}
}

func TestWhy(t *testing.T) {
	m := parsed(t, phone)
	for _, x := range []struct {
		d    diagram.D
		want []int
	}{
		{diagram.Cube(4|8, 0), []int{5, 7, 8}},
		{diagram.False(), nil},
		{diagram.Cube(0, 1), []int{0}},
		{diagram.Cube(1, 2), []int{2}},
		{diagram.Cube(0, 2), []int{0, 2}},
		{diagram.Cube(8|16, 0), []int{5, 7}},
		{diagram.Cube(4, 16), []int{8}},
	} {
		if l, e := model.Why(m, x.d); !slices.Equal(l, x.want) || e != api.OK {
			t.Errorf("Why: %v, %v, want %v", l, e, x.want)
		}
	}
	for _, d := range []diagram.D{diagram.True(), diagram.Cube(1, 0), diagram.Cube(11, 4|16), diagram.Cube(1<<23, 1<<22)} {
		l, e := model.Why(m, d)
		wantNone(t, "Why", m, l, e)
	}
}

// Sets of one configuration, of one cube, and of what is no product; also with a feature that the model has not.
func TestWhySets(t *testing.T) {
	for k, m := range models(t, 120) {
		x := truthOf(m)
		all := uint32(1)<<(x.n+1) - 1
		d := dice(1000003 + k)
		for range 12 {
			on := uint32(d.roll(1 << (x.n + 1)))
			off := uint32(d.roll(1<<(x.n+1))) &^ on
			for _, cube := range []api.Cube{{On: on, Off: off}, {On: on, Off: all &^ on}, {On: on}, {Off: on}} {
				l, e := model.Why(m, diagram.Cube(cube.On, cube.Off))
				wantWhy(t, "Why", x, func(c uint32) bool { return c&cube.On == cube.On && c&cube.Off == 0 }, l, e)
			}
		}
		products, _ := model.Diagram(m)
		l, e := model.Why(m, products.Not())
		wantWhy(t, "Why of no product", x, func(c uint32) bool { return len(x.broken[c]) > 0 }, l, e)
		odd := diagram.Cube(1, 0).Xor(diagram.Cube(1<<(x.n-1), 0)).Xor(diagram.Cube(1<<x.n, 0))
		l, e = model.Why(m, odd)
		wantWhy(t, "Why of an odd set", x, odd.Has, l, e)
		l, e = model.Why(m, diagram.True())
		wantWhy(t, "Why of all", x, func(uint32) bool { return true }, l, e)
	}
}

func TestWhyOfFeatures(t *testing.T) {
	for _, m := range models(t, 200) {
		x := truthOf(m)
		for i, f := range m.Features {
			l, e := model.WhyDead(m, i)
			wantWhy(t, "WhyDead", x, func(c uint32) bool { return has(c, i) }, l, e)
			if (e == api.OK) != x.dead(i) {
				t.Errorf("WhyDead(%d): %v for %s", i, e, shaped(m))
			}
			l, e = model.WhyCore(m, i)
			wantWhy(t, "WhyCore", x, func(c uint32) bool { return !has(c, i) }, l, e)
			if (e == api.OK) != x.core(i) {
				t.Errorf("WhyCore(%d): %v for %s", i, e, shaped(m))
			}
			l, e = model.WhyFalse(m, i)
			if f.Kind != api.Optional && f.Kind != api.Member || x.dead(i) || !x.implies(f.Parent, i) {
				wantNone(t, "WhyFalse", m, l, e)
				continue
			}
			wantWhy(t, "WhyFalse", x, func(c uint32) bool { return has(c, f.Parent) && !has(c, i) }, l, e)
		}
	}
}

// A rule is left out if later ones can stand in for it: so a is there because of b, not as it is the root.
func TestWhySpecial(t *testing.T) {
	m := parsed(t, "root a\noptional a b\noptional b c\noptional a d\nmandatory a x\nrequire !c\nrequire b\nrequire c => d")
	for _, x := range []struct {
		what   string
		why    func(api.Model, int) ([]int, api.Errno)
		number int
		want   []int
	}{
		{"WhyDead", model.WhyDead, 2, []int{6}},
		{"WhyCore", model.WhyCore, 0, []int{1, 7}},
		{"WhyCore", model.WhyCore, 1, []int{7}},
		{"WhyCore", model.WhyCore, 4, []int{1, 5, 7}},
		{"WhyFalse", model.WhyFalse, 1, []int{7}},
		{"WhyRedundant", model.WhyRedundant, 0, []int{1, 7}},
		{"WhyRedundant", model.WhyRedundant, 2, []int{7}},
		{"WhyRedundant", model.WhyRedundant, 8, []int{6}},
	} {
		if l, e := x.why(m, x.number); !slices.Equal(l, x.want) || e != api.OK {
			t.Errorf("%s(%d): %v, %v, want %v", x.what, x.number, l, e, x.want)
		}
	}
	for _, i := range []int{0, 2, 3, 4} {
		l, e := model.WhyFalse(m, i)
		wantNone(t, "WhyFalse", m, l, e)
	}
}

// In a void model every feature is dead and core, and none is false-optional.
func TestWhyInVoidModel(t *testing.T) {
	m := parsed(t, "root a\noptional a b\nrequire b\nrequire !a | !b\nrequire b => 0")
	for i := range 2 {
		if l, e := model.WhyDead(m, i); e != api.OK || len(l) == 0 {
			t.Errorf("WhyDead(%d): %v, %v", i, l, e)
		}
		if l, e := model.WhyCore(m, i); e != api.OK || len(l) == 0 {
			t.Errorf("WhyCore(%d): %v, %v", i, l, e)
		}
		l, e := model.WhyFalse(m, i)
		wantNone(t, "WhyFalse", m, l, e)
	}
	if l, e := model.Why(m, diagram.True()); !slices.Equal(l, []int{2, 4}) || e != api.OK {
		t.Errorf("Why: %v, %v", l, e)
	}
}

func TestWhyRedundant(t *testing.T) {
	for _, m := range models(t, 150) {
		x := truthOf(m)
		for k, r := range wantRules(m) {
			broken := func(c uint32) bool { return !holds(m, r, c) }
			others := slices.Delete(x.allRules(), k, k+1)
			want, is := x.explanation(broken, others)
			l, e := model.WhyRedundant(m, k)
			if !is {
				wantNone(t, "WhyRedundant", m, l, e)
				continue
			}
			if !slices.Equal(l, want) || e != api.OK {
				t.Errorf("WhyRedundant(%d): %v, %v, want %v for %s", k, l, e, want, shaped(m))
			}
			wantMinimal(t, "WhyRedundant", x, broken, l)
		}
	}
}

func TestNoSuchFeature(t *testing.T) {
	for _, m := range append(models(t, 10), full()) {
		n := len(m.Features)
		for _, i := range []int{-1, n, n + 1, 24, 64, -1 << 63, 1<<63 - 1} {
			for what, why := range map[string]func(api.Model, int) ([]int, api.Errno){
				"WhyDead": model.WhyDead, "WhyCore": model.WhyCore, "WhyFalse": model.WhyFalse,
			} {
				if l, e := why(m, i); e != api.ErrRange || len(l) != 0 {
					t.Errorf("%s(%d): %v, %v", what, i, l, e)
				}
			}
		}
	}
}
