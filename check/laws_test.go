package check_test

import (
	"slices"
	"testing"

	"motley/api"
	"motley/check"
	"motley/diagram"
	"motley/syntax"
)

// P8.1, P8.7

func TestFamilyAndConfigurations(t *testing.T) {
	met := map[int]int{} // how many configurations have which code; 0 if they have none
	eachSource(t, 480, func(text string, x syntax.Tree, d *dice) {
		within := pick(d, diagram.True(), someSet(d, features))
		l := family(t, x, within)
		if !check.Valid(l) {
			t.Fatalf("%s\n%s\nis not valid", text, shown(l))
		}
		for c := range diagram.True().All(features) {
			want := referred(x, c)
			p := plain(t, x, c)
			if !check.Same(p, want) {
				t.Fatalf("%s\n%b: %s\nwant\n%s", text, c, shown(p), shown(want))
			}
			count(met, p)
			if !within.Has(c) {
				want = nil
			}
			if p := check.Project(l, c); !check.Same(p, want) {
				t.Fatalf("%s\n%b: %s\nwant\n%s", text, c, shown(p), shown(want))
			}
		}
	})
	for code := api.CodeTwice; code <= api.CodeConst; code++ {
		if met[int(code)] < 30 {
			t.Error("too few programs with the code", code, met[int(code)])
		}
	}
	if met[0] < 500 {
		t.Error("too few programs without an error:", met[0])
	}
}

func count(met map[int]int, l []check.Fact) {
	codes := map[int]bool{}
	for _, f := range l {
		if f.Kind == api.FactError {
			codes[f.Other] = true
		}
	}
	if len(codes) == 0 && len(l) > 0 {
		met[0]++
	}
	for code := range codes {
		met[code]++
	}
}

// The x behind the inner Var is another variable in each configuration.
func TestFamilyOfNames(t *testing.T) {
	x := program(t, "fn main() { var x : int = 1;\n{\n#ifdef A\nvar x : bool;\n#endif\nx = true;\nprint x;\n}\nprint x; }")
	want := "use 18 6 in 0 2 4 6\nuse 18 14 in 1 3 5 7\n" +
		"type 20 2\nerror 20 23 in 0 2 4 6\n" +
		"use 23 6 in 0 2 4 6\nuse 23 14 in 1 3 5 7\ntype 23 1 in 0 2 4 6\ntype 23 2 in 1 3 5 7\nflow 23 18\n" +
		"use 27 6\ntype 27 1\nflow 27 6 in 1 3 5 7\nflow 27 18 in 0 2 4 6"
	if got := shown(check.Restrict(family(t, x, all), all)[1:]); got != want {
		t.Errorf("%s\nwant\n%s", got, want)
	}
}

// P8.8

func TestFamilyWithin(t *testing.T) {
	eachSource(t, 400, func(text string, x syntax.Tree, d *dice) {
		all := family(t, x, diagram.True())
		a, b := someSet(d, features+1), someSet(d, features)
		inA, inB := family(t, x, a), family(t, x, b)
		if want := check.Restrict(all, a); !check.Same(inA, want) {
			t.Fatalf("%s\n%s\nwant\n%s", text, shown(inA), shown(want))
		}
		got, want := check.Merge([][]check.Fact{inA, inB}), family(t, x, a.Or(b))
		if !check.Same(got, want) {
			t.Fatalf("%s\n%s\nwant\n%s", text, shown(got), shown(want))
		}
	})
}

// P8.9

func TestOneMeaning(t *testing.T) {
	eachSource(t, 200, func(text string, x syntax.Tree, d *dice) {
		l := family(t, x, diagram.True())
		taken := map[[2]int]diagram.D{}
		for _, f := range l {
			if f.Kind == api.FactUse || f.Kind == api.FactType {
				k := [2]int{int(f.Kind), f.Tok}
				if taken[k].Meets(f.Cond) {
					t.Fatalf("%s\n%s\nat %d", text, shown(l), f.Tok)
				}
				taken[k] = taken[k].Or(f.Cond)
			}
		}
		for _, f := range l {
			if f.Kind == api.FactFlow && !f.Cond.Within(sameMeaning(l, f)) {
				t.Fatalf("%s\n%s\nflow %d %d", text, shown(l), f.Tok, f.Other)
			}
		}
	})
}

// sameMeaning is where a flow leads from a definition of the declaration to which its Name refers: that itself, or an
// Assign that refers to it.
func sameMeaning(l []check.Fact, flow check.Fact) diagram.D {
	out := diagram.False()
	for _, u := range check.Of(l, api.FactUse, flow.Tok) {
		if u.Other == flow.Other {
			out = out.Or(u.Cond)
		}
		for _, v := range check.Of(l, api.FactUse, flow.Other) {
			if u.Other == v.Other {
				out = out.Or(u.Cond.And(v.Cond))
			}
		}
	}
	return out
}

// P8.10

func TestOtherNames(t *testing.T) {
	eachSource(t, 200, func(text string, x syntax.Tree, d *dice) {
		others := changed(x, func(n syntax.Node) syntax.Node {
			switch n.Kind {
			case api.Var, api.Fn, api.Param, api.Assign, api.Call, api.Name:
				if n.Text != "main" {
					n.Text = "other_" + n.Text
				}
			}
			return n
		})
		if a, b := family(t, x, diagram.True()), family(t, others, diagram.True()); !check.Same(a, b) {
			t.Fatalf("%s\n%s\nwith other names\n%s", text, shown(a), shown(b))
		}
	})
}

// P8.11

func TestOtherPlaces(t *testing.T) {
	other := func(tok int) int {
		if tok < 0 {
			return tok
		}
		return 7*tok + 100
	}
	eachSource(t, 200, func(text string, x syntax.Tree, d *dice) {
		others := changed(x, func(n syntax.Node) syntax.Node {
			n.Tok = other(n.Tok)
			return n
		})
		want := family(t, x, diagram.True())
		for k, f := range want {
			want[k].Tok = other(f.Tok)
			if f.Kind == api.FactUse || f.Kind == api.FactFlow {
				want[k].Other = other(f.Other)
			}
		}
		if l := family(t, others, diagram.True()); !check.Same(l, want) {
			t.Fatalf("%s\n%s\nwant\n%s", text, shown(l), shown(want))
		}
	})
}

// P8.12

func TestEachFunctionByItself(t *testing.T) {
	eachSource(t, 200, func(text string, x syntax.Tree, d *dice) {
		var fns []int
		for _, n := range syntax.Walk(x) {
			if n.Kind == api.Fn {
				fns = append(fns, n.Tok)
			}
		}
		if len(fns) == 0 {
			return
		}
		fn := pick(d, fns...)
		inside := map[int]bool{}
		emptied := changed(x, func(n syntax.Node) syntax.Node {
			if n.Kind != api.Fn || n.Tok != fn {
				return n
			}
			n.Kids = slices.Clone(n.Kids)
			for k, kid := range n.Kids {
				if kid.Kind == api.Block {
					for _, o := range syntax.Walk(syntax.Tree{Kids: kid.Kids}) {
						inside[o.Tok] = true
					}
					n.Kids[k].Kids = nil
				}
			}
			return n
		})
		a, b := outside(family(t, x, diagram.True()), inside, fn), outside(family(t, emptied, diagram.True()), inside, fn)
		if !check.Same(a, b) {
			t.Fatalf("%s\n%d: %s\nwithout the statements\n%s", text, fn, shown(a), shown(b))
		}
	})
}

// outside are the facts that are not inside of a Fn, but for CodeFall of it.
func outside(l []check.Fact, inside map[int]bool, fn int) []check.Fact {
	return slices.DeleteFunc(slices.Clone(l), func(f check.Fact) bool {
		isFall := f.Tok == fn && f.Kind == api.FactError && f.Other == int(api.CodeFall)
		return inside[f.Tok] || isFall
	})
}

// P8.13

func TestValueFirst(t *testing.T) {
	names := 0
	eachSource(t, 300, func(text string, x syntax.Tree, d *dice) {
		for c := range diagram.True().All(features) {
			l := plain(t, x, c)
			if errors(l) != "" {
				continue
			}
			r := newReference(x, c)
			for _, n := range r.nodes {
				if n.Kind != api.Name {
					continue
				}
				v, found := r.meant(n)
				if !found || v.Kind == api.Fn || r.isGlobal(v) {
					continue
				}
				names++
				flow := check.Of(l, api.FactFlow, n.Tok)
				bare := v.Kind == api.Var && len(r.kids(v, 1)) == 0
				if len(flow) == 0 || bare && slices.ContainsFunc(flow, func(f check.Fact) bool { return f.Other == v.Tok }) {
					t.Fatalf("%s\n%b: %s\nat %d", text, c, shown(l), n.Tok)
				}
			}
		}
	})
	if names < 1000 {
		t.Error("too few names in programs without errors:", names)
	}
}

// P8.4, P8.14

func TestCleanAndTheOthers(t *testing.T) {
	eachSource(t, 200, func(text string, x syntax.Tree, d *dice) {
		within := pick(d, diagram.True(), someSet(d, features+1))
		clean, e := check.Clean(x, within)
		if e != api.OK || !clean.Within(within) {
			t.Fatalf("%s\nClean: %v", text, e)
		}
		rest := within.And(syntax.Whole(x).Not())
		for _, p := range check.Problems(family(t, x, within)) {
			rest = rest.Or(p.Cond)
		}
		if rest.Meets(clean) || !rest.Or(clean).Same(within) {
			t.Fatalf("%s\nClean, and the others, do not partition within", text)
		}
		for c := range within.All(features + 1) {
			want := len(newReference(x, c).nodes) > 0 && errors(referred(x, c)) == ""
			if clean.Has(c) != want {
				t.Fatalf("%s\n%b: clean: %v, want %v", text, c, clean.Has(c), want)
			}
		}
	})
}
