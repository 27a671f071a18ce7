package check_test

import (
	"slices"
	"testing"

	"motley/api"
	"motley/check"
	"motley/diagram"
	"motley/syntax"
)

// with reports whether a configuration has something.
func with[T any](l []T, c uint32, cond func(T) diagram.D) []T {
	return slices.DeleteFunc(slices.Clone(l), func(x T) bool { return !cond(x).Has(c) })
}

func declCond(d check.Decl) diagram.D   { return d.Cond }
func edgeCond(e check.Edge) diagram.D   { return e.Cond }
func placeCond(p check.Place) diagram.D { return p.Cond }

func sameDecl(a, b check.Decl) bool {
	return a.Kind == b.Kind && a.Name == b.Name && a.Tok == b.Tok && a.Type == b.Type && slices.Equal(a.Params, b.Params)
}

// isPlace reports whether places are in order, within some configurations, and have any.
func arePlaces(l []check.Place, within diagram.D) bool {
	for k, p := range l {
		if p.Cond.Empty() || !p.Cond.Within(within) || k > 0 && l[k-1].Tok >= p.Tok {
			return false
		}
	}
	return true
}

func hasTokens(l []check.Place, want map[int]bool) bool {
	for _, p := range l {
		if !want[p.Tok] {
			return false
		}
	}
	return len(l) == len(want)
}

// P8.4, P8.5, P8.6: what is asked of all configurations is what each of them has

func TestAsked(t *testing.T) {
	eachSource(t, 240, func(text string, x syntax.Tree, d *dice) {
		within := pick(d, diagram.True(), someSet(d, features))
		faces, e1 := check.Interface(x, within)
		calls, e2 := check.Calls(x, within)
		reached, e3 := check.Reached(x, within)
		unused, e4 := check.Unused(x, within)
		if e1 != api.OK || e2 != api.OK || e3 != api.OK || e4 != api.OK {
			t.Fatal(text, e1, e2, e3, e4)
		}
		if !arePlaces(reached, within) || !arePlaces(unused, within) {
			t.Fatalf("%s\n%v\n%v", text, reached, unused)
		}
		for c := range diagram.True().All(features) {
			r := newReference(x, c)
			if !within.Has(c) {
				r = &reference{}
			}
			if got, want := with(faces, c, declCond), r.faces(); !slices.EqualFunc(got, want, sameDecl) {
				t.Fatalf("%s\n%b: Interface: %v, want %v", text, c, got, want)
			}
			got, want := with(calls, c, edgeCond), r.calls()
			for _, e := range got {
				if !want[[2]int{e.From, e.To}] {
					t.Fatalf("%s\n%b: Calls: %v, want %v", text, c, got, want)
				}
			}
			if len(got) != len(want) {
				t.Fatalf("%s\n%b: Calls: %v, want %v", text, c, got, want)
			}
			if got, want := with(reached, c, placeCond), r.reached(); !hasTokens(got, want) {
				t.Fatalf("%s\n%b: Reached: %v, want %v", text, c, got, want)
			}
			if got, want := with(unused, c, placeCond), r.unused(); !hasTokens(got, want) {
				t.Fatalf("%s\n%b: Unused: %v, want %v", text, c, got, want)
			}
		}
	})
}

// P8.4

func TestClean(t *testing.T) {
	x := parsed(t, "#ifdef A\nprint\n#endif\nfn main() {\n#ifdef B\nprint y;\n#endif\n}")
	clean, e := check.Clean(x, all)
	if e != api.OK || !clean.Same(diagram.Cube(0, 3)) {
		t.Error("Clean:", e)
	}
	clean, e = check.Clean(x, diagram.Cube(4, 0))
	if e != api.OK || !clean.Same(diagram.Cube(4, 3)) {
		t.Error("Clean within:", e)
	}
	if clean, e := check.Clean(syntax.Tree{}, all); e != api.OK || !clean.Empty() {
		t.Error("Clean without a tree:", e)
	}
}

// P8.5

func TestInterface(t *testing.T) {
	text := "fn f(a :\n#ifdef A\nint\n#else\nbool\n#endif\n\n#ifdef B\n, b : bool\n#endif\n)\n#ifdef C\n: int\n#endif\n" +
		"{ var local : int; }\nvar x :\n#ifdef A\nint\n#else\nbool\n#endif\n;\n" +
		"fn f() { } fn twice(a : int, a : bool) { }\n#ifdef A\nvar\n#else\nfn\n#endif\ny\n#ifdef A\n: int ;\n#else\n( ) { }\n#endif\n"
	x := program(t, text)
	l, e := check.Interface(x, all)
	if e != api.OK {
		t.Fatal(e)
	}
	var got []string
	for _, d := range l {
		one := d.Name + " " + string(rune('0'+d.Kind)) + string(rune('0'+d.Type)) + " ("
		for _, p := range d.Params {
			one += string(rune('0' + p))
		}
		on, off := d.Cond.Fixed()
		got = append(got, one+") "+string(rune('0'+on))+string(rune('0'+off)))
	}
	want := []string{
		"f 30 (1) 16", "f 30 (12) 34", "f 30 (2) 07", "f 30 (22) 25",
		"f 31 (1) 52", "f 31 (12) 70", "f 31 (2) 43", "f 31 (22) 61",
		"x 21 () 10", "x 22 () 01", "twice 30 (12) 00", "y 21 () 10", "y 30 () 01",
	}
	if !slices.Equal(got, want) {
		t.Errorf("Interface:\n%q\nwant\n%q", got, want)
	}
	inBoth, _ := check.Interface(x, diagram.Cube(5, 2))
	if len(inBoth) != 4 || inBoth[0].Type != api.TypeInt || !inBoth[0].Cond.Same(diagram.Cube(5, 2)) {
		t.Error("Interface within:", inBoth)
	}
	if l, e := check.Interface(syntax.Tree{}, all); e != api.OK || len(l) != 0 {
		t.Error("Interface without a tree:", l, e)
	}
}

// P8.6

func TestCallsOfFunctions(t *testing.T) {
	text, marks := marked("var v : int = f ( ) ; fn f@f ( ) : int { return f ( ) + g ( f ( ) ) ; } fn g@g ( x : int ) : int { v ( ) ; } " +
		"fn main@main ( ) { return ; g ( 1 ) ; nobody ( ) ; } fn twice@g ( ) { f ( ) ; }")
	x := program(t, text)
	l, e := check.Calls(x, all)
	want := []check.Edge{
		{From: marks["f"], To: marks["f"], Cond: all}, {From: marks["f"], To: marks["g"], Cond: all},
		{From: marks["main"], To: marks["g"], Cond: all}, {From: marks["twice"], To: marks["f"], Cond: all},
	}
	if e != api.OK || !slices.Equal(l, want) {
		t.Error("Calls:", l, "want", want)
	}
	r, e := check.Reached(x, inA)
	if e != api.OK || !slices.Equal(r, []check.Place{{Tok: marks["g"], Cond: inA}, {Tok: marks["main"], Cond: inA}}) {
		t.Error("Reached:", r)
	}
}

func TestReached(t *testing.T) {
	x := program(t, "fn main() {\n#ifdef A\na();\n#endif\n}\nfn a() { b(); }\nfn b() {\n#ifdef B\nc();\n#endif\n}\n"+
		"fn c() { a(); d(); }\n#ifdef C\nfn d() { }\n#endif\nfn e() { e(); main(); }")
	want := []check.Place{{Cond: all}, {Cond: inA}, {Cond: inA}, {Cond: inA.And(inB)}, {Cond: diagram.Cube(7, 0)}}
	l, e := check.Reached(x, all)
	if e != api.OK || len(l) != len(want) {
		t.Fatal("Reached:", l)
	}
	for k := range l {
		if !l[k].Cond.Same(want[k].Cond) {
			t.Error("Reached:", k, l[k])
		}
	}
	for text, many := range map[string]int{
		"var main : int; fn main() { f(); } fn f() { }": 0,
		"fn f() { }": 0,
		"fn main(x : int) : int { return f(); } fn f() : int { }":       2,
		"fn main() { f(); } fn f() { } fn f() { g(); } fn g() { }":      2,
		"fn main() { f = 1; print g; } fn f() { } fn g() { }":           1,
		"fn main() { var f : int = 1; f(); } fn f() { } fn g() { }":     1,
		"fn main() { } fn main() { f(); } fn f() { }":                   1,
		"fn main() { f(); } fn f() { } fn g() { h(); } fn h() { g(); }": 2,
	} {
		if l, e := check.Reached(program(t, text), all); e != api.OK || len(l) != many {
			t.Errorf("Reached of %s: %v", text, l)
		}
	}
}

func TestUnused(t *testing.T) {
	for text, want := range map[string]string{
		"var u@x : int ; fn main ( ) { var y : int ; y = 1 ; var v@z : int = y ; }":      "u v",
		"fn f ( a : int , u@b : int ) : int { return a ; } fn main ( ) { f ( ) ; }":      "u",
		"fn u@f ( ) { } fn main ( ) { var v@f : int ; { var main : int ; main = f ; } }": "u",
		"fn main ( ) { var u@main : int ; }":                                             "u",
		"var main : int ;":                                                               "",
		"var x : int ; fn x ( ) { } fn main ( ) { x = 1 ; }":                             "",
		"fn main ( ) { } fn main ( ) { }":                                                "",
		"var u@x : int ; var y : int = f ( x ) ; fn main ( ) { y ( ) ; }":                "u",
		"fn f ( ) { f ( ) ; } fn main ( ) { }":                                           "",
		"fn main ( ) { return ; var x : int = 1 ; print x ; }":                           "",
		"fn main ( ) { var u@x : int = x ; { var x : int ; x = x ; } }":                  "u",
	} {
		plainText, marks := marked(text)
		l, e := check.Unused(program(t, plainText), all)
		var toks []int
		for _, p := range l {
			toks = append(toks, p.Tok)
		}
		var wanted []int
		for name, tok := range marks {
			if slices.Contains([]byte(want), name[0]) {
				wanted = append(wanted, tok)
			}
		}
		slices.Sort(wanted)
		if e != api.OK || !slices.Equal(toks, wanted) {
			t.Errorf("Unused of %s: %v, want %v", text, l, wanted)
		}
	}
	x := program(t, "var x : int;\nfn main() {\n#ifdef A\nprint x;\n#endif\n}")
	l, _ := check.Unused(x, inB)
	if !slices.Equal(l, []check.Place{{Tok: 1, Cond: inB.And(notA)}}) {
		t.Error("Unused in some configurations:", l)
	}
}
