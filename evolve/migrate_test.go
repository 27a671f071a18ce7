package evolve_test

import (
	"math/bits"
	"slices"
	"strings"
	"testing"

	"motley/api"
	"motley/evolve"
	"motley/model"
)

// P10.3

func TestEdits(t *testing.T) {
	const phone = "root p\noptional p s\nrequire s\nrequire p\nrequire s\nrequire s\n"
	for _, x := range []struct{ a, b, removed, added string }{
		{"root a", "root a", "", ""},
		{"root a", "root a\noptional a b", "", "optional a b"},
		{"root a\noptional a b", "root b\noptional b a", "root a; optional a b", "root b; optional b a"},
		{phone, "root p\noptional p s\nrequire s", "require p; require s; require s", ""},
		{"root p\noptional p s\nrequire p", phone, "", "require s; require s; require s"},
		{"root p\noptional p s\nrequire p\nrequire p", phone, "require p", "require s; require s; require s"},
		{phone, "root p\nmandatory p s\nrequire  ( s )\nrequire s\nrequire s\nrequire s", "optional p s; require p", "mandatory p s; require s"},
		{"root a\nattribute x\nvalue x a 1", "root a\nattribute x\nvalue x a 2\nlimit x = 2", "value x a 1", "value x a 2; limit x = 2"},
		{"root a\nattribute x\nvalue x a 0", "root a\nattribute x", "", ""},
	} {
		r, s, e := evolve.Edits(parsed(t, x.a), parsed(t, x.b))
		if strings.Join(r, "; ") != x.removed || strings.Join(s, "; ") != x.added || e != api.OK {
			t.Errorf("Edits of %q and %q: %q, %q, %v", x.a, x.b, r, s, e)
		}
	}
}

// Of equal lines it is the last ones that count.
func TestEditsOrder(t *testing.T) {
	a := parsed(t, "root a\noptional a b\nrequire a\nrequire b\nrequire a\nrequire b\nrequire a")
	b := parsed(t, "root a\noptional a b\nrequire b\nrequire a")
	r, s, e := evolve.Edits(a, b)
	if !slices.Equal(r, []string{"require a", "require b", "require a"}) || len(s) != 0 || e != api.OK {
		t.Errorf("Edits: %q, %q, %v", r, s, e)
	}
}

func TestEditsOfModels(t *testing.T) {
	for _, p := range pairs(t, 150) {
		r, s, e := evolve.Edits(p[0], p[1])
		before, after := printed(t, p[0]), printed(t, p[1])
		if e != api.OK || !slices.Equal(r, left(before, after)) || !slices.Equal(s, left(after, before)) {
			t.Fatalf("Edits: %q, %q, %v\n%s\n%s", r, s, e, before, after)
		}
	}
}

// left are the lines of a text which are, counted from the first one that is equal, more than the other one has.
func left(text, other string) []string {
	lines, theirs := strings.Split(strings.TrimSuffix(text, "\n"), "\n"), strings.Split(other, "\n")
	count := func(l []string, line string) int {
		n := 0
		for _, s := range l {
			if s == line {
				n++
			}
		}
		return n
	}
	var out []string
	for k, line := range lines {
		if count(lines[:k+1], line) > count(theirs, line) {
			out = append(out, line)
		}
	}
	return out
}

// P10.4

func TestMap(t *testing.T) {
	a, b := parsed(t, "root a\noptional a b\noptional a c\noptional a d"), parsed(t, "root d\noptional d x\noptional d a")
	for _, x := range []struct {
		c, want uint32
		missing string
	}{
		{0, 0, ""}, {1, 4, ""}, {2, 0, "b"}, {6, 0, "b c"}, {8, 1, ""}, {15, 5, "b c"}, {9, 5, ""},
		{1<<4 | 1, 4, ""}, {^uint32(0), 5, "b c"}, {^uint32(0) &^ 15, 0, ""},
	} {
		if got, l, e := evolve.Map(a, b, x.c); got != x.want || strings.Join(l, " ") != x.missing || e != api.OK {
			t.Errorf("Map of %b: %b, %v, %v", x.c, got, l, e)
		}
	}
}

func TestMapOfModels(t *testing.T) {
	for _, p := range pairs(t, 60) {
		before, after := model.Names(p[0]), model.Names(p[1])
		for c := range uint32(1) << len(before) {
			got, l, e := evolve.Map(p[0], p[1], c)
			if e != api.OK || got>>len(after) != 0 {
				t.Fatalf("Map of %b: %b, %v", c, got, e)
			}
			for k, name := range after {
				i := slices.Index(before, name)
				if want := i >= 0 && c>>i&1 == 1; want != (got>>k&1 == 1) {
					t.Fatalf("Map of %b: %b\n%s\n%s", c, got, printed(t, p[0]), printed(t, p[1]))
				}
			}
			var missing []string
			for i, name := range before {
				if c>>i&1 == 1 && !slices.Contains(after, name) {
					missing = append(missing, name)
				}
			}
			if !slices.Equal(l, missing) {
				t.Fatalf("Map of %b: %v, want %v", c, l, missing)
			}
		}
	}
}

func TestMigrate(t *testing.T) {
	for _, p := range pairs(t, 60) {
		d, _ := model.Diagram(p[1])
		for c := range uint32(1) << len(p[0].Features) {
			mapped, _, _ := evolve.Map(p[0], p[1], c)
			want, least, void := uint32(0), 99, true
			for x := range uint32(1) << len(p[1].Features) {
				if n := bits.OnesCount32(x ^ mapped); isProduct(p[1], x) && n < least {
					want, least, void = x, n, false
				}
			}
			got, n, e := evolve.Migrate(p[0], p[1], c|1<<len(p[0].Features)|1<<30)
			switch {
			case void:
				if got != 0 || n != 0 || e != api.ErrConflict {
					t.Fatalf("Migrate to a void model: %b, %d, %v", got, n, e)
				}
			case got != want || n != least || e != api.OK:
				t.Fatalf("Migrate of %b: %b, %d, %v, want %b, %d\n%s\n%s", c, got, n, e, want, least, printed(t, p[0]), printed(t, p[1]))
			// P10.12
			case !d.Has(got) || (n == 0) != d.Has(mapped) || n == 0 && got != mapped:
				t.Fatalf("Migrate of %b: %b, %d, for %b", c, got, n, mapped)
			}
		}
	}
}

// Of several products that are as near, it is the least one.
func TestMigrateLeast(t *testing.T) {
	a, b := parsed(t, "root a"), parsed(t, "root a\nmember a b\nmember a c\nmember a d\ngroup a 2 2 b c d")
	if p, n, e := evolve.Migrate(a, b, 1); p != 7 || n != 2 || e != api.OK {
		t.Errorf("Migrate: %d, %d, %v", p, n, e)
	}
	if p, n, e := evolve.Migrate(b, b, 15); p != 7 || n != 1 || e != api.OK {
		t.Errorf("Migrate within a model: %d, %d, %v", p, n, e)
	}
	if p, n, e := evolve.Migrate(wide(1, "x"), wide(24, "y"), 1<<24-1); p != 1 || n != 1 || e != api.OK {
		t.Errorf("Migrate to other names: %d, %d, %v", p, n, e)
	}
}
