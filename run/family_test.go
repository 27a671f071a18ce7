package run_test

import (
	"slices"
	"testing"

	"motley/api"
	"motley/check"
	"motley/diagram"
	"motley/run"
)

// P9.2, P9.6

func TestFamilyAndConfigurations(t *testing.T) {
	met := map[uint8]int{}
	steps := 0
	eachSource(t, 256, func(text string, b run.Built, m *maker) {
		within := pick(m.dice, diagram.True(), someSet(m.dice, features))
		in, fuel := m.inputs(), pick(m.dice, m.roll(30), 200, 1000)
		l := family(t, b.Tree, within, in, fuel)
		if !run.Valid(l) {
			t.Fatalf("%s\n%s\nis not valid", text, shownParts(l))
		}
		covered, e := run.Coverage(b.Tree, within, in, fuel)
		if e != api.OK {
			t.Fatal("Coverage:", e)
		}
		for c := range diagram.True().All(features) {
			want := referred(b.Tree, c, in, fuel)
			met[want.Status]++
			steps += want.Steps
			if o := plain(t, b.Tree, c, in, fuel); !equal(o, want.Outcome) {
				t.Fatalf("%s\n%v %d: %b: %s\nwant %s", text, in, fuel, c, shown(o), shown(want.Outcome))
			}
			o, is := run.Project(l, c)
			if is != within.Has(c) || is && !equal(o, want.Outcome) {
				t.Fatalf("%s\n%v %d: %b: %s\nwant %s", text, in, fuel, c, shown(o), shown(want.Outcome))
			}
			if within.Has(c) && !sameTokens(covered, c, want.ran) {
				t.Fatalf("%s\n%v %d: %b: %v\nwant %v", text, in, fuel, c, covered, want.ran)
			}
		}
	})
	for status := api.Done; status <= api.Deep; status++ {
		if met[status] < 40 {
			t.Error("too few runs with the status", statusNames[status], met[status])
		}
	}
	if steps < 50000 {
		t.Error("too few steps:", steps)
	}
}

// sameTokens reports whether a configuration has just these tokens, of places that are in order.
func sameTokens(l []check.Place, c uint32, want map[int]bool) bool {
	count := 0
	for k, p := range l {
		if p.Cond.Empty() || k > 0 && l[k-1].Tok >= p.Tok || p.Cond.Has(c) != want[p.Tok] {
			return false
		}
		if p.Cond.Has(c) {
			count++
		}
	}
	return count == len(want)
}

// P9.7

func TestFamilyWithin(t *testing.T) {
	eachSource(t, 128, func(text string, b run.Built, m *maker) {
		in := m.inputs()
		const fuel = 100
		whole := family(t, b.Tree, diagram.True(), in, fuel)
		x := someSet(m.dice, features+1)
		y := someSet(m.dice, features).And(x.Not())
		inX, inY := family(t, b.Tree, x, in, fuel), family(t, b.Tree, y, in, fuel)
		if want := run.Merge([][]run.Part{run.Restrict(whole, x)}); !run.Same(inX, want) {
			t.Fatalf("%s\n%s\nwant\n%s", text, shownParts(inX), shownParts(want))
		}
		got, want := run.Merge([][]run.Part{inX, inY}), family(t, b.Tree, x.Or(y), in, fuel)
		if !run.Same(got, want) {
			t.Fatalf("%s\n%s\nwant\n%s", text, shownParts(got), shownParts(want))
		}
		union := diagram.False()
		for _, p := range inX {
			union = union.Or(p.Cond)
		}
		if !union.Same(x) {
			t.Fatalf("%s\nthe parts are not within", text)
		}
	})
}

// P9.8, P9.13

func TestMoreFuel(t *testing.T) {
	eachSource(t, 96, func(text string, b run.Built, m *maker) {
		in := m.inputs()
		few := m.roll(60)
		more := few + m.roll(60)
		less, e1 := run.Coverage(b.Tree, diagram.True(), in, few)
		all, e2 := run.Coverage(b.Tree, diagram.True(), in, more)
		if e1 != api.OK || e2 != api.OK {
			t.Fatal("Coverage:", e1, e2)
		}
		for c := range diagram.True().All(features) {
			x, y := plain(t, b.Tree, c, in, few), plain(t, b.Tree, c, in, more)
			if x.Status != api.Fuel && !equal(x, y) {
				t.Fatalf("%s\n%b: %s\nwith more fuel %s", text, c, shown(x), shown(y))
			}
			if x.Status == api.Fuel && (x.Steps != few || len(x.Out) > len(y.Out) || !slices.Equal(x.Out, y.Out[:len(x.Out)])) {
				t.Fatalf("%s\n%b: %s\nwith more fuel %s", text, c, shown(x), shown(y))
			}
		}
		for _, p := range less {
			k := slices.IndexFunc(all, func(q check.Place) bool { return q.Tok == p.Tok })
			if k < 0 || !p.Cond.Within(all[k].Cond) {
				t.Fatalf("%s\nwith more fuel %d is not executed where it was", text, p.Tok)
			}
		}
	})
}

func TestFamilyOfFew(t *testing.T) {
	b := built(t, "fn main() {\n#ifdef A\nprint 1;\n#else\nprint 2;\n#endif\n#ifdef B\nprint x;\n#endif\n}")
	for want, within := range map[string]diagram.D{
		"done, 1: 2 in 0 4\ndone, 1: 1 in 1 5\nrejected, 0 in 2 3 6 7": diagram.True(),
		"rejected, 0 in 2 3 6 7":               diagram.Cube(2, 0),
		"done, 1: 1 in 1 5":                    diagram.Cube(1, 2),
		"done, 1: 1 in 1":                      diagram.Cube(1, 0xfffffe),
		"rejected, 0 in 3 7\ndone, 1: 2 in 4":  diagram.Cube(3, 0).Or(diagram.Cube(4, 3)),
		"":                                     diagram.False(),
		"done, 1: 2 in 0 4\ndone, 1: 1 in 1 5": b.Good,
		"rejected, 0 in 2 3 6 7\ndone, 1: 1 in 5": diagram.Cube(2, 0).Or(diagram.Cube(5, 2)),
	} {
		l := family(t, b.Tree, within, nil, 10)
		if got := shownParts(l); got != want {
			t.Errorf("%s\nwant\n%s", got, want)
		}
	}
}

// What a run adds up is the same for many configurations: going through all of them would take too long.
func TestFamilyOfManyFeatures(t *testing.T) {
	text, names := "fn main() {\nvar x : int = 0;\nvar round : int = 0;\nwhile (round < 3) {\n", []string(nil)
	for k := range api.MaxFeatures {
		name := string(rune('A' + k))
		names = append(names, name)
		text += "#ifdef " + name + "\nx = x + 1;\n#endif\n"
	}
	b, e := run.Build(files(text+"round = round + 1;\n}\nprint x;\n}\n"), names, diagram.True())
	if e != api.OK || !b.Good.Full() {
		t.Fatal("Build:", e)
	}
	l := family(t, b.Tree, diagram.True(), nil, 1000)
	if len(l) != api.MaxFeatures+1 {
		t.Fatal("parts:", len(l))
	}
	for k, p := range l {
		want := run.Outcome{Tok: -1, Steps: 10 + 3*k, Out: []int64{int64(3 * k)}}
		if !equal(p.Outcome, want) || !p.Cond.Same(diagram.Between(1<<api.MaxFeatures-1, k, k)) {
			t.Errorf("%d: %s, want %s", k, shown(p.Outcome), shown(want))
		}
	}
}

// Each configuration has its own number of rounds, and its own outputs.
func TestFamilyOfManyOutcomes(t *testing.T) {
	const n = 8
	text, names := "fn main() {\nvar x : int = 0;\n", []string(nil)
	for k := range n {
		name := string(rune('A' + k))
		names = append(names, name)
		text += "#ifdef " + name + "\nx = x + " + []string{"1", "2", "4", "8", "16", "32", "64", "128"}[k] + ";\n#endif\n"
	}
	b, e := run.Build(files(text+"while (x > 0) { print x; x = x / 2; }\n}\n"), names, diagram.True())
	if e != api.OK || !b.Good.Full() {
		t.Fatal("Build:", e)
	}
	l := family(t, b.Tree, diagram.True(), nil, 1000)
	if len(l) != 1<<n || !run.Valid(l) {
		t.Fatal("parts:", len(l))
	}
	for c, p := range l {
		var out []int64
		for x := int64(c); x > 0; x /= 2 {
			out = append(out, x)
		}
		if !slices.Equal(p.Out, out) || !p.Cond.Same(diagram.Cube(uint32(c), (1<<n-1)&^uint32(c))) {
			t.Errorf("%d: %s, want %v", c, shown(p.Outcome), out)
		}
	}
}
