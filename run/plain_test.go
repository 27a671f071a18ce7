package run_test

import (
	"math"
	"slices"
	"strconv"
	"strings"
	"testing"

	"motley/api"
	"motley/diagram"
	"motley/run"
	"motley/syntax"
)

// P9.2: the run of one configuration, rule by rule

// expect compares the outcome of a program with the wanted one, in which the token has the name of its mark.
func expect(t *testing.T, text string, in []int64, fuel int, want string) {
	t.Helper()
	source, marks := marked(text)
	words := strings.Split(want, " ")
	for k, word := range words {
		if tok, is := marks[strings.TrimSuffix(word, ",")]; is {
			words[k] = strconv.Itoa(tok) + ","
		}
	}
	want = strings.Join(words, " ")
	if got := shown(plain(t, program(t, source), 0, in, fuel)); got != want {
		t.Errorf("%s\nhas %q, want %q", text, got, want)
	}
}

const enough = 1000

func TestSteps(t *testing.T) {
	for text, want := range map[string]string{
		"fn main ( ) { }":                                                                 "done, 0",
		"fn main ( ) { { } { { } } }":                                                     "done, 0",
		"fn main ( ) { print 1 + 2 ; }":                                                   "done, 1: 3",
		"fn main ( ) { { print 1 ; } { { print 2 ; } } }":                                 "done, 2: 1 2",
		"var x : int ; var y : int = 3 ; fn main ( ) { print x ; print y ; }":             "done, 4: 0 3",
		"fn main ( ) { var x : int ; x = 5 ; x = x + x ; print x ; }":                     "done, 4: 10",
		"fn main ( ) { assert true ; return ; }":                                          "done, 2",
		"fn main ( ) { if ( true ) { } }":                                                 "done, 1",
		"fn main ( ) { if ( true ) { print 1 ; } else { print 2 ; } }":                    "done, 2: 1",
		"fn main ( ) { if ( false ) { print 1 ; } else { print 2 ; } }":                   "done, 2: 2",
		"fn main ( ) { if ( false ) { print 1 ; } }":                                      "done, 1",
		"fn main ( ) { if ( false ) { } else if ( true ) { print 2 ; } }":                 "done, 3: 2",
		"fn main ( ) { if ( false ) { } else if ( false ) { } else { print 3 ; } }":       "done, 3: 3",
		"fn main ( ) { while ( false ) { } }":                                             "done, 1",
		"fn main ( ) { f ( ) ; } fn f ( ) { }":                                            "done, 2",
		"fn main ( ) { print f ( ) ; } fn f ( ) : int { return 4 ; }":                     "done, 3: 4",
		"fn main ( ) { f ( ) ; } fn f ( ) : int { return 4 ; }":                           "done, 3",
		"fn main ( ) { print f ( f ( 1 ) ) ; } fn f ( n : int ) : int { return n + 1 ; }": "done, 5: 3",
		"fn main ( ) { var x : int = 2 ; while ( x > 0 ) { x = x - 1 ; } }":               "done, 6",
		"fn main ( ) { while ( true ) { return ; } }":                                     "done, 2",
		"fn main ( ) { while ( true ) { { return ; } } }":                                 "done, 2",
		"fn main ( ) { while ( true ) { if ( true ) { return ; } } }":                     "done, 3",
	} {
		expect(t, text, nil, enough, want)
	}
}

func TestReturn(t *testing.T) {
	for text, want := range map[string]string{
		"fn main ( ) { print 1 ; if ( true ) { return ; } print 2 ; }":                                                          "done, 3: 1",
		"fn main ( ) { f ( 1 ) ; f ( 0 ) ; print 3 ; } fn f ( n : int ) { if ( n > 0 ) { return ; } print n ; }":                "done, 9: 0 3",
		"fn main ( ) { print f ( 7 ) ; } fn f ( n : int ) : int { while ( true ) { n = n - 2 ; if ( n < 0 ) { return n ; } } }": "done, 15: -1",
		"fn main ( ) { print f ( 5 ) ; } fn f ( n : int ) : int { if ( n == 0 ) { return 1 ; } return n * f ( n - 1 ) ; }":      "done, 19: 120",
		"fn main ( ) { print f ( 3 ) ; print f ( 0 ) ; } fn f ( n : int ) : bool { return n > 1 ; }":                            "done, 6: 1 0",
		"fn main ( ) { if ( f ( ) ) { print 2 ; } } fn f ( ) : bool { print 1 ; return true ; }":                                "done, 5: 1 2",
	} {
		expect(t, text, nil, enough, want)
	}
}

func TestVariables(t *testing.T) {
	for text, want := range map[string]string{
		"var x : int = 1 ; fn main ( ) { x = x + 1 ; f ( ) ; print x ; } fn f ( ) { x = x * 10 ; }":                         "done, 6: 20",
		"var x : int = 1 ; var y : int = x + 1 ; var z : bool = x < y ; fn main ( ) { print x ; print y ; print z ; }":      "done, 6: 1 2 1",
		"var b : bool ; fn main ( ) { print b ; }":                                                                          "done, 2: 0",
		"fn main ( ) { var x : int = 1 ; { var x : int = x + 1 ; print x ; x = 9 ; } print x ; }":                           "done, 5: 2 1",
		"fn main ( ) { var x : int = 1 ; { x = 5 ; var x : int = 2 ; x = 7 ; } print x ; }":                                 "done, 5: 5",
		"var x : int = 1 ; fn main ( ) { x = 2 ; var x : int = 3 ; f ( ) ; print x ; } fn f ( ) { print x ; }":              "done, 7: 2 3",
		"fn main ( ) { var i : int = 0 ; while ( i < 3 ) { var x : int = i * i ; i = i + 1 ; print x ; x = 100 ; } }":       "done, 17: 0 1 4",
		"fn main ( ) { f ( 3 ) ; } fn f ( n : int ) { var m : int = n ; if ( n > 0 ) { n = n - 1 ; f ( n ) ; } print m ; }": "done, 23: 0 1 2 3",
		"fn main ( ) { var x : int = 4 ; f ( x ) ; print x ; } fn f ( x : int ) { x = x + 1 ; print x ; }":                  "done, 6: 5 4",
		"fn main ( ) { f ( 1 , true , 3 ) ; } fn f ( a : int , b : bool , c : int ) { print c ; print b ; print a ; }":      "done, 5: 3 1 1",
		"fn main ( ) { f ( 5 ) ; } fn f ( n : int ) { { var n : int = 6 ; print n ; } print n ; }":                          "done, 5: 6 5",
		"var x : int ; fn main ( ) { print g ( ) + x ; print x + g ( ) ; } fn g ( ) : int { x = x + 1 ; return x ; }":       "done, 9: 2 3",
	} {
		expect(t, text, nil, enough, want)
	}
}

func TestOperators(t *testing.T) {
	for expression, want := range map[string]string{
		"1 + 2 * 3":      "7",
		"7 - 2 - 1":      "4",
		"- 7 / 2":        "-3",
		"7 / - 2":        "-3",
		"- 7 / - 2":      "3",
		"- 7 % 3":        "-1",
		"7 % - 3":        "1",
		"- 6 % 3":        "0",
		"- ( - 5 )":      "5",
		"! true":         "0",
		"! ! true":       "1",
		"! false":        "1",
		"1 == 1":         "1",
		"1 == 2":         "0",
		"1 != 1":         "0",
		"1 != 2":         "1",
		"true == true":   "1",
		"true != false":  "1",
		"1 < 1":          "0",
		"1 < 2":          "1",
		"- 2 < 1":        "1",
		"1 <= 1":         "1",
		"2 <= 1":         "0",
		"1 > 1":          "0",
		"2 > 1":          "1",
		"1 >= 1":         "1",
		"1 >= 2":         "0",
		"true && true":   "1",
		"true && false":  "0",
		"false && true":  "0",
		"false || true":  "1",
		"true || false":  "1",
		"false || false": "0",
		"2147483647 * 2147483647 * 2 + 2147483647 * 4 + 1": "9223372036854775807",
		"2147483647 * 2147483647 * 2 + 2147483647 * 4 + 2": "-9223372036854775808",
		"- ( 2147483647 * 2147483647 * 4 + 9 )":            "17179869171",
	} {
		expect(t, "fn main ( ) { print "+expression+" ; }", nil, enough, "done, 1: "+want)
	}
}

// Numbers wrap around; the least one can only be an input.
func TestNumbers(t *testing.T) {
	const least, most = math.MinInt64, math.MaxInt64
	for _, x := range []struct {
		expression string
		a, b, want int64
	}{
		{"read / read", least, -1, least},
		{"read % read", least, -1, 0},
		{"read / read", least, least, 1},
		{"read % read", 5, least, 5},
		{"read / read", 1, least, 0},
		{"read + read", most, 1, least},
		{"read - read", least, 1, most},
		{"read * read", least, -1, least},
		{"read * read", most, 2, -2},
		{"- read + read", least, 0, least},
		{"- read - read", most, 1, least},
		{"read - read", 3, 5, -2},
	} {
		o := plain(t, program(t, "fn main() { print "+x.expression+"; }"), 0, []int64{x.a, x.b}, enough)
		if o.Status != api.Done || !slices.Equal(o.Out, []int64{x.want}) {
			t.Errorf("%s of %d and %d: %s, want %d", x.expression, x.a, x.b, shown(o), x.want)
		}
	}
}

func TestRead(t *testing.T) {
	expect(t, "fn main ( ) { var x : int = read ; while ( x > 0 ) { print x ; x = x - 1 ; } }", []int64{2}, enough, "done, 8: 2 1")
	for text, want := range map[string]string{
		"print read ; print read ; print read ; print read ;": "done, 4: 8 -9 0 0",
		"print read - read ;":                                         "done, 1: 17",
		"var x : int = read ; print read ; print x ;":                 "done, 3: -9 8",
		"print false && read > 0 ; print read ;":                      "done, 2: 0 8",
		"print true && read > 0 ; print read ;":                       "done, 2: 1 -9",
		"print true || read > 0 ; print read ;":                       "done, 2: 1 8",
		"print false || read < 0 ; print read ;":                      "done, 2: 0 -9",
		"print f ( read , read ) ;":                                   "done, 3: 17",
		"while ( read != 0 ) { print 1 ; } print read ;":              "done, 6: 1 1 0",
		"if ( read == 8 ) { print read ; } else { print 0 - read ; }": "done, 2: -9",
	} {
		expect(t, "fn main ( ) { "+text+" } fn f ( a : int , b : int ) : int { return a - b ; }", []int64{8, -9}, enough, want)
	}
}

func TestZeroAndFailed(t *testing.T) {
	for text, want := range map[string]string{
		"print 6 z@/ read ;":                                      "zero at z, 1",
		"print 6 z@% 0 ;":                                         "zero at z, 1",
		"print 1 ; print 0 z@/ 0 ; print 2 ;":                     "zero at z, 2: 1",
		"print ( 1 z@/ 0 ) / 0 ;":                                 "zero at z, 1",
		"print 1 z@/ ( 2 - 2 ) + 1 / 0 ;":                         "zero at z, 1",
		"print 1 / ( 2 z@/ 0 ) ;":                                 "zero at z, 1",
		"print f ( ) + 1 z@/ 0 ;":                                 "zero at z, 4: 5",
		"print 1 z@/ 0 + f ( ) ;":                                 "zero at z, 1",
		"print false && 1 / 0 == 0 ;":                             "done, 1: 0",
		"print true && 1 z@/ 0 == 0 ;":                            "zero at z, 1",
		"print true || 1 / 0 == 0 ;":                              "done, 1: 1",
		"print false || 1 z@/ 0 == 0 ;":                           "zero at z, 1",
		"if ( false ) { print 1 / 0 ; }":                          "done, 1",
		"if ( 1 z@/ 0 == 0 ) { }":                                 "zero at z, 1",
		"while ( 1 z@/ read > 0 ) { print 1 ; }":                  "zero at z, 1",
		"var x : int = 2 ; while ( 2 z@/ x > 0 ) { x = x - 1 ; }": "zero at z, 6",
		"assert 1 < 2 ; a@assert 2 < 1 ; print 1 ;":               "failed at a, 2",
		"assert 1 z@/ 0 == 0 ;":                                   "zero at z, 1",
		"a@assert read == 1 ;":                                    "failed at a, 1",
		"print 3 ; g ( 1 ) ; g ( 0 ) ;":                           "failed at b, 7: 3",
		"g ( 1 z@/ 0 ) ;":                                         "zero at z, 1",
		"if ( h ( ) == 0 ) { }":                                   "zero at y, 3",
	} {
		expect(t, "fn main ( ) { "+text+" } fn f ( ) : int { print 5 ; return 1 ; } fn g ( n : int ) { b@assert n == 1 ; }"+
			" fn h ( ) : int { return 1 y@/ 0 ; }", nil, enough, want)
	}
	expect(t, "var x : int = 1 z@/ 0 ; fn main ( ) { print 1 ; }", nil, enough, "zero at z, 1")
}

// Each step is the one at which the run ends if there is no more fuel.
func TestFuel(t *testing.T) {
	text := "var e0@g : int = 1 ; fn main ( ) { e1@while ( g < 3 ) { e2@g = g + 1 ; } e6@f ( ) ; e9@print 1 + e10@f ( ) ; }" +
		" fn f ( ) : int { { e8@return g ; } }"
	source, marks := marked(text)
	x := program(t, source)
	order := []string{"e0", "e1", "e2", "e1", "e2", "e1", "e6", "e6", "e8", "e9", "e10", "e8"}
	for fuel, mark := range order {
		want := run.Outcome{Status: api.Fuel, Tok: marks[mark], Steps: fuel}
		if o := plain(t, x, 0, nil, fuel); !equal(o, want) {
			t.Errorf("fuel %d: %s, want %s", fuel, shown(o), shown(want))
		}
	}
	want := run.Outcome{Tok: -1, Steps: len(order), Out: []int64{4}}
	for _, fuel := range []int{len(order), len(order) + 1, api.MaxFuel} {
		if o := plain(t, x, 0, nil, fuel); !equal(o, want) {
			t.Errorf("fuel %d: %s, want %s", fuel, shown(o), shown(want))
		}
	}
	expect(t, "fn main ( ) { }", nil, 0, "done, 0")
	expect(t, "fn main ( ) { { { } } a@print 1 ; }", nil, 0, "fuel at a, 0")
	expect(t, "fn main ( ) { a@while ( true ) { } }", nil, api.MaxFuel, "fuel at a, 1048576")
	expect(t, "fn main ( ) { while ( true ) { a@print 1 ; } }", nil, 5, "fuel at a, 5: 1 1")
}

func TestDeep(t *testing.T) {
	const text = "fn main ( ) { a@f ( ) ; } fn f ( ) { d@f ( ) ; }"
	expect(t, text, nil, enough, "deep at d, 127")
	expect(t, text, nil, 127, "deep at d, 127") // it is found before the step of the Call
	expect(t, text, nil, 126, "fuel at d, 126")
	expect(t, text, nil, 1, "fuel at a, 1")
	down := func(n string) string {
		return "fn main ( ) { print f ( " + n + " ) ; } fn f ( n : int ) : int { if ( n == 0 ) { return 5 ; } return d@f ( n - 1 ) ; }"
	}
	expect(t, down("62"), nil, enough, "done, 190: 5")
	expect(t, down("63"), nil, enough, "deep at d, 190")
	expect(t, "fn main ( ) { d@main ( ) ; }", nil, enough, "deep at d, 127")
	// What is given to a Call that is too deep is evaluated before.
	expect(t, "fn main ( ) { f ( 62 ) ; } fn f ( n : int ) { f ( n - 1 + 0 z@/ n ) ; }", nil, enough, "zero at z, 127")
	// A call that has ended is not active.
	expect(t, "fn main ( ) { var i : int = 0 ; while ( i < 100 ) { f ( ) ; i = i + 1 ; } } fn f ( ) { }", nil, enough, "done, 402")
}

func TestRejected(t *testing.T) {
	for _, text := range []string{
		"fn main() { print x; }",
		"fn main() { return 1; }",
		"fn f() { }",
		"",
		"fn main() { print 1; } fn main() { }",
		"fn main() { } fn f() { var x : int; print x; }",
		"print 1;",
		"fn main() {",
	} {
		x := built(t, text).Tree
		for _, fuel := range []int{0, enough} {
			if got := shown(plain(t, x, 0, []int64{1}, fuel)); got != "rejected, 0" {
				t.Errorf("%q: %s", text, got)
			}
			if got := shownParts(family(t, x, diagram.True(), nil, fuel)); got != "rejected, 0" {
				t.Errorf("%q: %s", text, got)
			}
		}
		if l, e := run.Coverage(x, diagram.True(), nil, enough); e != api.OK || len(l) != 0 {
			t.Errorf("%q: Coverage: %v, %v", text, l, e)
		}
	}
	x := built(t, "fn main() {\n#ifdef B\nprint x;\n#endif\n}").Tree
	for c, want := range []string{"done, 0", "done, 0", "rejected, 0", "rejected, 0"} {
		if got := shown(plain(t, x, uint32(c)|1<<24|1<<31, nil, enough)); got != want {
			t.Errorf("%b: %s", c, got)
		}
	}
	if got := shown(plain(t, syntax.Tree{}, 0, nil, enough)); got != "rejected, 0" {
		t.Errorf("no program: %s", got)
	}
}

// P9.2: what took a step

func TestCoverage(t *testing.T) {
	text, marks := marked("var s0@g : int ; fn main ( ) { s1@if ( read == 0 ) { s2@f ( ) ; } else { n1@print 1 ; } { s3@while ( false ) { n2@print n3@h ( ) ; } }" +
		" s4@print n4@h ( ) ; s5@assert 1 z@/ g == 1 ; n5@print 2 ; } fn f ( ) { s6@return ; } fn h ( ) : int { s7@g = g * 2 ; s8@return 1 ; }")
	l, e := run.Coverage(program(t, text), diagram.True(), nil, enough)
	want := map[int]bool{}
	for mark, tok := range marks {
		if strings.HasPrefix(mark, "s") {
			want[tok] = true
		}
	}
	if e != api.OK || !sameTokens(l, 0, want) || !l[0].Cond.Full() {
		t.Errorf("%v, %v, want %v", l, e, want)
	}
	l, e = run.Coverage(program(t, text), diagram.True(), nil, 3)
	if e != api.OK || len(l) != 3 {
		t.Error("with little fuel:", l, e)
	}
	within := diagram.Cube(2, 0)
	l, e = run.Coverage(program(t, "fn main() {\n#ifdef A\nprint 1;\n#endif\nprint 2;\n}"), within, nil, enough)
	if e != api.OK || len(l) != 2 || !l[0].Cond.Same(diagram.Cube(3, 0)) || !l[1].Cond.Same(within) {
		t.Error("within:", l, e)
	}
}

// A name has another meaning, and an argument another Param, in each configuration.
func TestMeanings(t *testing.T) {
	x := program(t, "var x : int = 1;\nfn main() {\n#ifdef A\nvar x : int = 2;\n#endif\nx = x + 5; f(x,\n#ifdef B\n10,\n#endif\n20); g(); }\n"+
		"fn f(\n#ifdef B\na : int,\n#endif\nb : int, c : int) { print b; print c;\n#ifdef B\nprint a;\n#endif\n}\n"+
		"fn\n#ifdef C\ng\n#else\nunused\n#endif\n() { print x; }\nfn\n#ifdef C\nunused\n#else\ng\n#endif\n() { print 0 - x; }")
	for c, want := range []string{
		"done, 9: 6 20 -6", "done, 10: 7 20 -1", "done, 10: 10 20 6 -6", "done, 11: 10 20 7 -1",
		"done, 9: 6 20 6", "done, 10: 7 20 1", "done, 10: 10 20 6 6", "done, 11: 10 20 7 1",
	} {
		o, is := run.Project(family(t, x, diagram.True(), nil, enough), uint32(c))
		if got := shown(o); !is || got != want {
			t.Errorf("%b: %s, want %s", c, got, want)
		}
	}
}

func TestErrors(t *testing.T) {
	good := program(t, "fn main() { print 1; }")
	tests := []run.Test{{Want: []int64{1}}}
	try := func(x syntax.Tree, fuel int, want api.Errno) {
		t.Helper()
		o, e1 := run.Plain(x, 0, nil, fuel)
		l, e2 := run.Family(x, diagram.True(), nil, fuel)
		c, e3 := run.Coverage(x, diagram.True(), nil, fuel)
		f, e4 := run.Fails(x, diagram.True(), tests, fuel)
		s, e5 := run.Sampled(x, []uint32{0}, tests, fuel)
		for k, e := range []api.Errno{e1, e2, e3, e4, e5} {
			if e != want {
				t.Errorf("%d: %v, want %v", k, e, want)
			}
		}
		if want != api.OK && (!equal(o, run.Outcome{}) || len(l)+len(c)+len(f)+len(s) > 0) {
			t.Error("results with an error", want)
		}
	}
	for _, fuel := range []int{-1, math.MinInt, api.MaxFuel + 1, math.MaxInt} {
		try(good, fuel, api.ErrRange)
	}
	for _, fuel := range []int{0, api.MaxFuel} {
		try(good, fuel, api.OK)
	}
	for _, x := range invalidTrees() {
		try(x, 1, api.ErrArg)
		try(x, -1, api.ErrArg)
	}
	if _, e := run.Fails(good, diagram.True(), nil, -1); e != api.ErrRange {
		t.Error("Fails without tests:", e)
	}
	if _, e := run.Sampled(good, nil, nil, -1); e != api.ErrRange {
		t.Error("Sampled without tests:", e)
	}
}

// Calls are nested on trees with as many levels as there may be.
func TestDeepTrees(t *testing.T) {
	const levels = api.MaxTokens - 10
	const last = 9 * levels
	value := node(api.Call, "f", last, 1)
	for k := range levels {
		first := node(api.Bool, "true", last-4*k-3, 0)
		value = node(api.Binary, "&&", last-4*k-4, 1, first, value)
	}
	value.Slot = 0
	main := node(api.Block, "", 4, 2, node(api.Print, "", 5, 0, node(api.Call, "f", 6, 0)))
	body := node(api.Block, "", 12, 2, node(api.Return, "", 13, 0, value))
	f := node(api.Fn, "f", 10, 0, node(api.TypeName, "bool", 11, 1), body)
	want := run.Outcome{Status: api.Deep, Tok: last, Steps: 127}
	if o := plain(t, tree(t, node(api.Fn, "main", 3, 0, main), f), 0, nil, api.MaxFuel); !equal(o, want) {
		t.Errorf("%s, want %s", shown(o), shown(want))
	}
	statement := node(api.Block, "", last+1, 2, node(api.Call, "main", last, 0))
	for k := range levels {
		first, then := node(api.Bool, "false", last-4*k-3, 0), node(api.Block, "", last-4*k-2, 1)
		statement = node(api.If, "", last-4*k-4, 2, first, then, statement)
	}
	statement.Slot = 0
	main = node(api.Block, "", 1, 2, statement)
	want.Steps = 64*(levels+1) + 63
	if o := plain(t, tree(t, node(api.Fn, "main", 0, 0, main)), 0, nil, api.MaxFuel); !equal(o, want) {
		t.Errorf("%s, want %s", shown(o), shown(want))
	}
}
