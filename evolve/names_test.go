package evolve_test

import (
	"slices"
	"strings"
	"testing"

	"motley/api"
	"motley/evolve"
	"motley/model"
)

// P10.1

func TestUnion(t *testing.T) {
	a, b := parsed(t, "root c\noptional c a\noptional c b"), parsed(t, "root x\noptional x b\noptional x a\noptional x d")
	if l, e := evolve.Union(a, b); !slices.Equal(l, []string{"c", "a", "b", "x", "d"}) || e != api.OK {
		t.Errorf("Union: %v, %v", l, e)
	}
	if l, e := evolve.Union(b, a); !slices.Equal(l, []string{"x", "b", "a", "d", "c"}) || e != api.OK {
		t.Errorf("Union, the other way round: %v, %v", l, e)
	}
	if l, e := evolve.Union(a, a); !slices.Equal(l, []string{"c", "a", "b"}) || e != api.OK {
		t.Errorf("Union with itself: %v, %v", l, e)
	}
}

func TestUnionLimit(t *testing.T) {
	if l, e := evolve.Union(wide(12, "x"), wide(12, "y")); len(l) != 24 || e != api.OK {
		t.Errorf("Union of 24 names: %v, %v", l, e)
	}
	if l, e := evolve.Union(wide(24, "x"), wide(24, "x")); len(l) != 24 || e != api.OK {
		t.Errorf("Union of the same 24 names: %v, %v", l, e)
	}
	a, b := wide(13, "x"), wide(12, "y")
	if l, e := evolve.Union(a, b); len(l) != 0 || e != api.ErrLimit {
		t.Errorf("Union of 25 names: %v, %v", l, e)
	}
	if c, e := evolve.Compare(a, b); len(c.Names) != 0 || c.Kind != 0 || e != api.ErrLimit {
		t.Errorf("Compare with 25 names: %v, %v", c, e)
	}
	if lost, gained, e := evolve.Differences(a, b); !lost.Empty() || !gained.Empty() || e != api.ErrLimit {
		t.Errorf("Differences with 25 names: %v", e)
	}
	// The others need no union.
	if r, s, e := evolve.Edits(a, b); len(r) != 13 || len(s) != 12 || e != api.OK {
		t.Errorf("Edits with 25 names: %v, %v, %v", r, s, e)
	}
	if p, n, e := evolve.Migrate(a, b, 7); p != 1 || n != 1 || e != api.OK {
		t.Errorf("Migrate with 25 names: %d, %d, %v", p, n, e)
	}
}

func TestWiden(t *testing.T) {
	d := newDice()
	for _, p := range pairs(t, 150) {
		names := shuffled(d, append(slices.Clone(pool), "more"))
		n := len(names)
		got, e := evolve.Widen(p[0], names)
		want := set(n, func(c uint32) bool { return isIn(p[0], names, c) })
		if e != api.OK || !got.Same(want) {
			t.Fatalf("Widen over %v: %v\n%s", names, e, printed(t, p[0]))
		}
	}
}

// Over its own names the set of a model is that of the model, whatever the features behind them are.
func TestWidenOwn(t *testing.T) {
	for _, m := range []api.Model{wide(1, "x"), wide(24, "x"), parsed(t, "root a\noptional a b\nrequire 0")} {
		want, _ := model.Diagram(m)
		if d, e := evolve.Widen(m, model.Names(m)); e != api.OK || !d.Same(want) {
			t.Errorf("Widen over its own names: %v", e)
		}
	}
	defined := parsed(t, "root defined") // this is the name of no feature of a source, but it is a name
	if d, e := evolve.Widen(defined, []string{"x", "defined"}); e != api.OK || !d.Same(has(1).And(has(0).Not())) {
		t.Errorf("Widen over the name defined: %v", e)
	}
}

func TestWidenErrors(t *testing.T) {
	m := parsed(t, "root a\noptional a b")
	for _, names := range [][]string{nil, {"a"}, {"b", "c"}, {"A", "b"}} {
		if d, e := evolve.Widen(m, names); e != api.ErrName || !d.Empty() {
			t.Errorf("Widen over %v: %v", names, e)
		}
	}
	missing := parsed(t, "root z")
	for want, l := range badNames() {
		for _, names := range l {
			for _, m := range []api.Model{m, missing} {
				if d, e := evolve.Widen(m, names); e != want || !d.Empty() {
					t.Errorf("Widen over %q: %v, want %v", names, e, want)
				}
			}
		}
	}
}

func TestRoles(t *testing.T) {
	m := parsed(t, "root a\nmandatory a b\noptional a c\noptional a d\noptional d e\nrequire !d")
	const dead, variable, core = evolve.Dead, evolve.Variable, evolve.Core
	names := []string{"e", "x", "a", "c", "b", "d", "A"}
	want := []uint8{dead, evolve.Absent, core, variable, core, dead, evolve.Absent}
	if l, e := evolve.Roles(m, names); !slices.Equal(l, want) || e != api.OK {
		t.Errorf("Roles: %v, %v", l, e)
	}
	void := parsed(t, "root a\noptional a b\nrequire 0")
	if l, e := evolve.Roles(void, []string{"c", "b", "a"}); !slices.Equal(l, []uint8{evolve.Absent, dead, dead}) || e != api.OK {
		t.Errorf("Roles of a void model: %v, %v", l, e)
	}
	if l, e := evolve.Roles(m, nil); len(l) != 0 || e != api.OK {
		t.Errorf("Roles of no names: %v, %v", l, e)
	}
}

func TestRolesOfModels(t *testing.T) {
	for _, p := range pairs(t, 100) {
		l, e := evolve.Roles(p[1], pool)
		if e != api.OK || len(l) != len(pool) {
			t.Fatalf("Roles: %v, %v", l, e)
		}
		for k, name := range pool {
			if want := roleOf(p[1], name); l[k] != want {
				t.Fatalf("the role %d of %s, want %d\n%s", l[k], name, want, printed(t, p[1]))
			}
		}
	}
}

// roleOf is the role of a name, found by going through all configurations.
func roleOf(m api.Model, name string) uint8 {
	i := slices.Index(model.Names(m), name)
	if i < 0 {
		return evolve.Absent
	}
	with, without := 0, 0
	for c := range uint32(1) << len(m.Features) {
		switch {
		case !isProduct(m, c):
		case c>>i&1 == 1:
			with++
		default:
			without++
		}
	}
	switch {
	case with == 0:
		return evolve.Dead
	case without == 0:
		return evolve.Core
	}
	return evolve.Variable
}

func TestRolesErrors(t *testing.T) {
	for want, l := range badNames() {
		for _, names := range l {
			if l, e := evolve.Roles(wide(2, "x"), names); e != want || len(l) != 0 {
				t.Errorf("Roles of %q: %v, want %v", names, e, want)
			}
		}
	}
}

// The errors of models come first: those of the first one, then those of the second one.
func TestErrorsOfModels(t *testing.T) {
	good, tooMany := wide(2, "x"), strings.Fields(strings.Repeat("x ", 30))
	for want, bad := range badModels() {
		if d, e := evolve.Widen(bad, tooMany); e != want || !d.Empty() {
			t.Errorf("Widen: %v, want %v", e, want)
		}
		if l, e := evolve.Roles(bad, tooMany); e != want || len(l) != 0 {
			t.Errorf("Roles: %v, want %v", e, want)
		}
		bothErrors(t, bad, good, want)
		bothErrors(t, good, bad, want)
		for _, other := range badModels() {
			bothErrors(t, bad, other, want)
		}
	}
}

// bothErrors calls all functions that get two models.
func bothErrors(t *testing.T, a, b api.Model, want api.Errno) {
	t.Helper()
	names, e := evolve.Union(a, b)
	if e != want || len(names) != 0 {
		t.Errorf("Union: %v, want %v", e, want)
	}
	c, e := evolve.Compare(a, b)
	if e != want || c.Kind != 0 || len(c.Names)+len(c.Gone)+len(c.New) != 0 || c.Before|c.After|c.Both != 0 || c.Lost|c.Gained != 0 {
		t.Errorf("Compare: %v, want %v", e, want)
	}
	lost, gained, e := evolve.Differences(a, b)
	if e != want || !lost.Empty() || !gained.Empty() {
		t.Errorf("Differences: %v, want %v", e, want)
	}
	removed, added, e := evolve.Edits(a, b)
	if e != want || len(removed)+len(added) != 0 {
		t.Errorf("Edits: %v, want %v", e, want)
	}
	x, l, e := evolve.Map(a, b, 1)
	if e != want || x != 0 || len(l) != 0 {
		t.Errorf("Map: %v, want %v", e, want)
	}
	x, n, e := evolve.Migrate(a, b, 1)
	if e != want || x != 0 || n != 0 {
		t.Errorf("Migrate: %v, want %v", e, want)
	}
}
