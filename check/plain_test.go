package check_test

import (
	"strings"
	"testing"

	"motley/api"
	"motley/check"
	"motley/diagram"
	"motley/syntax"
)

// P8.1: the facts of programs, rule by rule

// expect compares the errors of a program with what is wanted, in which tokens have the names of their marks.
func expect(t *testing.T, text, want string) {
	t.Helper()
	plainText, marks := marked(text)
	l := plain(t, program(t, plainText), 0)
	if got := errors(l); got != toks(want, marks) {
		t.Errorf("%s\nhas %q, want %q", text, got, toks(want, marks))
	}
}

const emptyMain = " fn main ( ) { }"

func TestDeclarations(t *testing.T) {
	for text, want := range map[string]string{
		"var x : int ; var a@x : bool ;" + emptyMain:                                 "20 at a",
		"var x : int ; fn a@x ( ) { }" + emptyMain:                                   "20 at a",
		"fn x ( ) { } var a@x : int ;" + emptyMain:                                   "20 at a",
		"fn f ( ) { } fn a@f ( ) { } fn b@f ( ) { }" + emptyMain:                     "20 at a, 20 at b",
		"fn f ( x : int , a@x : bool ) { }" + emptyMain:                              "20 at a",
		"fn f ( x : int ) { var a@x : int ; }" + emptyMain:                           "20 at a",
		"fn f ( x : int ) { { var x : int ; } }" + emptyMain:                         "",
		"var x : int ; fn f ( x : int ) { }" + emptyMain:                             "",
		"fn main ( ) { var x : int ; { var x : int ; { var x : int ; } } }":          "",
		"fn main ( ) { { var x : int ; } { var x : int ; } var x : int ; }":          "",
		"fn main ( ) { if ( true ) { var x : int ; } else { var x : int ; } }":       "",
		"fn main ( ) { { var x : int ; var a@x : int ; } }":                          "20 at a",
		"fn main ( ) { var main : int ; }":                                           "",
		"var x : int ; var a@x : int = b@true ;" + emptyMain:                         "20 at a, 23 at b",
		"fn f ( ) { } fn a@f ( ) { print b@y ; }" + emptyMain:                        "20 at a, 21 at b",
		"fn main ( ) { var x : int = 1 ; var a@x : bool = true ; print x + 1 ; }":    "20 at a",
		"fn f ( ) : int { return 1 ; } fn a@f ( ) { } fn main ( ) { print f ( ) ; }": "20 at a",
	} {
		expect(t, text, want)
	}
}

func TestWhatIsSeen(t *testing.T) {
	for text, want := range map[string]string{
		"fn main ( ) { print a@x ; var x : int = 1 ; }":                                         "21 at a",
		"fn main ( ) { var x : int = a@x ; }":                                                   "21 at a",
		"fn main ( ) { { var x : int = 1 ; } print a@x ; }":                                     "21 at a",
		"fn main ( ) { a@x = 1 ; b@f ( ) ; }":                                                   "21 at a, 21 at b",
		"fn main ( ) { x = 1 ; print x + f ( ) ; } var x : int ; fn f ( ) : int { return x ; }": "",
		"fn f ( x : int ) { } fn main ( ) { print a@x ; }":                                      "21 at a",
		"fn main ( ) { if ( true ) { var x : int = 1 ; } else { print a@x ; } }":                "21 at a",
		"fn main ( ) { while ( a@x > 0 ) { var x : int = 1 ; } }":                               "21 at a",
		"fn main ( ) { var x : bool = true ; { var x : int = 1 ; x = x + 1 ; } x = ! x ; }":     "",
		"fn main ( ) { var x : bool = true ; { x = ! x ; var x : int = 1 ; x = - x ; } }":       "",
		"fn main ( ) { var x : bool = true ; { var x : int = - a@x ; } }":                       "23 at a",
		"var x : bool ; fn main ( ) { x = true ; var x : int = 1 ; x = 2 ; }":                   "",
		"fn f ( x : int ) { x = 1 ; { x = 2 ; } }" + emptyMain:                                  "",
	} {
		expect(t, text, want)
	}
}

func TestGlobalValues(t *testing.T) {
	for text, want := range map[string]string{
		"var a : int = 1 + 2 ; var b : int = a * a ;" + emptyMain:                                  "",
		"var a : int = m@b ; var b : int = a + n@read ;" + emptyMain:                               "21 at m, 30 at n",
		"var a : int = m@a ;" + emptyMain:                                                          "21 at m",
		"var a : int = m@f ; fn f ( ) { }" + emptyMain:                                             "21 at m",
		"fn f ( ) : int { return 1 ; } var a : int = m@f ;" + emptyMain:                            "21 at m",
		"fn f ( ) : int { return 1 ; } var a : int = m@f ( ) ;" + emptyMain:                        "30 at m",
		"var a : int = m@g ( x , read , g ( ) ) ;" + emptyMain:                                     "30 at m",
		"var a : bool = m@g ( ) == 1 ; var b : bool = n@read ;" + emptyMain:                        "30 at m, 30 at n",
		"var a : bool = 1 == m@read ;" + emptyMain:                                                 "30 at m",
		"var a : int ; var m@a : bool ; var b : int = a ;" + emptyMain:                             "20 at m",
		"fn a ( ) { } var m@a : int ; var b : int = n@a ;" + emptyMain:                             "20 at m, 21 at n",
		"var a : bool = true ; var b : int = m@a ;" + emptyMain:                                    "23 at m",
		"var a : int ; var m@a : int = a ; var b : int = a ;" + emptyMain:                          "20 at m",
		"fn main ( ) { var a : int = read ; var b : int = f ( ) ; } fn f ( ) : int { return 1 ; }": "",
	} {
		expect(t, text, want)
	}
}

func TestKindsOfDeclarations(t *testing.T) {
	for text, want := range map[string]string{
		"fn f ( ) : int { return 1 ; } fn main ( ) { print a@f ; b@f = 1 ; }": "22 at a, 22 at b",
		"var x : int ; fn main ( ) { a@x ( ) ; print b@x ( 1 ) + 1 ; }":       "22 at a, 22 at b",
		"fn f ( p : int ) { a@p ( true , b@q ) ; }" + emptyMain:               "22 at a, 21 at b",
		"fn f ( ) { } fn main ( ) { var f : int = 1 ; a@f ( ) ; print f ; }":  "22 at a",
		"fn main ( ) { a@main = b@main ; }":                                   "22 at a, 22 at b",
	} {
		expect(t, text, want)
	}
}

func TestMain(t *testing.T) {
	for text, want := range map[string]string{
		"":                                          "29 at -1",
		"fn f ( ) { }":                              "29 at -1",
		"var main : int ;":                          "29 at -1",
		"fn main ( x : int ) { }":                   "29 at -1",
		"fn main ( ) : int { return 1 ; }":          "29 at -1",
		"var main : int ; fn a@main ( ) { }":        "29 at -1, 20 at a",
		"fn main ( ) { } var a@main : int ;":        "20 at a",
		"fn main ( ) { } fn a@main ( x : int ) { }": "20 at a",
		"fn main ( ) { main ( ) ; }":                "",
	} {
		expect(t, text, want)
	}
}

func TestTypes(t *testing.T) {
	for text, want := range map[string]string{
		"var x : int = a@true ; var y : bool = b@1 ;" + emptyMain:                    "23 at a, 23 at b",
		"fn main ( ) { var x : int = a@true ; x = b@! c@x ; }":                       "23 at a, 23 at b, 23 at c",
		"fn main ( ) { if ( a@1 ) { } while ( b@read ) { } assert c@- 1 ; }":         "23 at a, 23 at b, 23 at c",
		"fn main ( ) { print 1 ; print true ; print read ; print 1 < 2 ; }":          "",
		"fn main ( ) { print a@true + b@false ; print c@true % 1 ; }":                "23 at a, 23 at b, 23 at c",
		"fn main ( ) { print a@true - 1 ; print 1 * b@true ; print 1 / c@! true ; }": "23 at a, 23 at b, 23 at c",
		"fn main ( ) { print a@true < 1 ; print 1 <= b@true ; }":                     "23 at a, 23 at b",
		"fn main ( ) { print a@true > 1 ; print 1 >= b@true ; }":                     "23 at a, 23 at b",
		"fn main ( ) { print 1 == a@true ; print true != b@1 ; }":                    "23 at a, 23 at b",
		"fn main ( ) { print 1 == 2 ; print true != false ; }":                       "",
		"fn main ( ) { print a@x == true ; print b@x != 1 ; }":                       "21 at a, 21 at b",
		"fn main ( ) { print a@1 && b@2 ; print true || c@3 ; }":                     "23 at a, 23 at b, 23 at c",
		"fn main ( ) { print - a@true ; print ! b@1 ; }":                             "23 at a, 23 at b",
		"fn main ( ) { print 1 + a@x ; print ! b@y ; if ( c@z ) { } }":               "21 at a, 21 at b, 21 at c",
		"fn main ( ) { print ( a@true b@+ 1 ) && true ; }":                           "23 at a, 23 at b",
		"var x : int ; fn main ( ) { x = a@true ; b@f = 1 ; }":                       "23 at a, 21 at b",
		"fn f ( ) { } fn main ( ) { a@f = true ; }":                                  "22 at a",
	} {
		expect(t, text, want)
	}
}

// TestOperators goes through all operators, with all operands: an int, a bool, and something without a type.
func TestOperators(t *testing.T) {
	operands := map[string]uint8{"1": api.TypeInt, "true": api.TypeBool, "nobody": 0}
	wrong := func(have, want uint8) bool { return have != 0 && want != 0 && have != want }
	for ops, d := range map[string][2]uint8{ // by operators: the type that they give, and that of their operands
		"+ - * / %": {api.TypeInt, api.TypeInt}, "< <= > >=": {api.TypeBool, api.TypeInt},
		"== !=": {api.TypeBool, 0}, "&& ||": {api.TypeBool, api.TypeBool},
	} {
		for _, op := range strings.Fields(ops) {
			for a, first := range operands {
				for b, second := range operands {
					l := plain(t, program(t, "fn main() { print "+a+" "+op+" "+b+"; }"), 0)
					ofSecond := d[1]
					if d[1] == 0 {
						ofSecond = first
					}
					if len(check.Of(l, api.FactType, 7)) != 1 || check.Of(l, api.FactType, 7)[0].Other != int(d[0]) {
						t.Errorf("the type of %s %s %s: %s", a, op, b, shown(l))
					}
					for tok, bad := range map[int]bool{6: wrong(first, d[1]), 8: wrong(second, ofSecond)} {
						if has := strings.Contains(errors(l), "23 at "+string(rune('0'+tok))); has != bad {
							t.Errorf("%s %s %s at %d: %s", a, op, b, tok, shown(l))
						}
					}
				}
			}
		}
	}
	for op, kind := range map[string]uint8{"-": api.TypeInt, "!": api.TypeBool} {
		for a, have := range operands {
			l := plain(t, program(t, "fn main() { print "+op+" "+a+"; }"), 0)
			if len(check.Of(l, api.FactType, 6)) != 1 || check.Of(l, api.FactType, 6)[0].Other != int(kind) {
				t.Errorf("the type of %s %s: %s", op, a, shown(l))
			}
			if has := strings.Contains(errors(l), "23 at 7"); has != wrong(have, kind) {
				t.Errorf("%s %s: %s", op, a, shown(l))
			}
		}
	}
}

func TestCalls(t *testing.T) {
	fns := " fn f ( x : int , y : bool ) : int { return x ; } fn g ( ) { }"
	for text, want := range map[string]string{
		"fn main ( ) { print f ( 1 , true ) ; g ( ) ; f ( 1 , true ) ; }":               "",
		"fn main ( ) { print a@f ( ) ; b@f ( 1 ) ; print 1 + c@f ( 1 , true , 2 ) ; }":  "24 at a, 24 at b, 24 at c",
		"fn main ( ) { a@g ( 1 ) ; b@main ( c@x ) ; }":                                  "24 at a, 24 at b, 21 at c",
		"fn main ( ) { f ( a@true , b@1 ) ; c@f ( d@true ) ; }":                         "23 at a, 23 at b, 24 at c, 23 at d",
		"fn main ( ) { a@f ( 1 , true , 1 + b@true ) ; }":                               "24 at a, 23 at b",
		"fn main ( ) { print a@g ( ) ; if ( b@g ( ) ) { } print 1 + c@g ( ) ; }":        "23 at a, 23 at b, 23 at c",
		"fn main ( ) { f ( a@g ( ) , true ) ; var x : int = b@g ( ) ; }":                "23 at a, 23 at b",
		"fn main ( ) { print ! a@f ( 1 , true ) ; }":                                    "23 at a",
		"fn main ( ) { print a@h ( b@x , 1 + c@true ) ; }":                              "21 at a, 21 at b, 23 at c",
		"fn main ( ) { } fn k ( z : int , a@z : bool ) { k ( 1 , b@2 ) ; c@k ( 1 ) ; }": "20 at a, 23 at b, 24 at c",
	} {
		expect(t, text+fns, want)
	}
}

func TestReturns(t *testing.T) {
	for text, want := range map[string]string{
		"fn f ( ) : int { return 1 ; }":                                     "",
		"fn f ( ) : int { a@return ; }":                                     "26 at a",
		"fn f ( ) { a@return 1 + b@true ; }":                                "26 at a, 23 at b",
		"fn f ( ) { return ; }":                                             "",
		"fn f ( ) : bool { return a@1 ; }":                                  "23 at a",
		"fn a@f ( ) : int { }":                                              "27 at a",
		"fn a@f ( ) : int { if ( true ) { return 1 ; } }":                   "27 at a",
		"fn f ( ) : int { if ( true ) { return 1 ; } else { return 2 ; } }": "",
		"fn f ( ) : int { if ( true ) { return 1 ; } else if ( true ) { return 2 ; } else { return 3 ; } }": "",
		"fn a@f ( ) : int { if ( true ) { return 1 ; } else if ( true ) { return 2 ; } }":                   "27 at a",
		"fn f ( ) : int { while ( true ) { } }":                                                             "",
		"fn f ( ) : int { while ( true ) { if ( read > 1 ) { return 1 ; } } }":                              "",
		"fn a@f ( ) : int { while ( ! false ) { } }":                                                        "27 at a",
		"fn a@f ( ) : int { while ( true && true ) { } }":                                                   "27 at a",
		"fn f ( ) : int { while ( ( true ) ) { } }":                                                         "",
		"fn a@f ( ) : int { while ( false ) { return 1 ; } }":                                               "27 at a",
		"fn f ( ) : int { { { return 1 ; } } }":                                                             "",
	} {
		expect(t, text+emptyMain, want)
	}
}

func TestDeadStatements(t *testing.T) {
	for text, want := range map[string]string{
		"return ; a@print 1 ; print 2 ;":                                    "28 at a",
		"return ; a@return ; return ;":                                      "28 at a",
		"{ return ; } a@print 1 ;":                                          "28 at a",
		"{ return ; a@print 1 ; } b@print 2 ;":                              "28 at a, 28 at b",
		"return ; a@{ print 1 ; print 2 ; }":                                "28 at a",
		"return ; a@if ( true ) { print 1 ; return ; print 2 ; } print 3 ;": "28 at a",
		"return ; var a@x : int ; print b@y ;":                              "28 at a, 21 at b",
		"if ( true ) { return ; } print 1 ;":                                "",
		"if ( true ) { return ; } else { return ; } a@print 1 ;":            "28 at a",
		"if ( true ) { return ; a@print 1 ; } print 2 ;":                    "28 at a",
		"while ( true ) { } a@print 1 ;":                                    "28 at a",
		"while ( true ) { return ; } a@print 1 ;":                           "28 at a",
		"while ( false ) { } print 1 ;":                                     "",
		"while ( read > 0 ) { return ; a@print 1 ; } print 2 ;":             "28 at a",
		"while ( read > 0 ) { while ( true ) { } a@print 1 ; } print 2 ;":   "28 at a",
	} {
		expect(t, "fn main ( ) { "+text+" }", want)
	}
}

func TestVariablesWithoutValue(t *testing.T) {
	for text, want := range map[string]string{
		"var x : int ; print a@x ;":                                                    "25 at a",
		"var x : int ; x = read ; print x ;":                                           "",
		"var x : int ; x = a@x + 1 ; print x ;":                                        "25 at a",
		"var x : int ; if ( read > 0 ) { x = 1 ; } print a@x ;":                        "25 at a",
		"var x : int ; if ( read > 0 ) { x = 1 ; } else { x = 2 ; } print x ;":         "",
		"var x : int ; if ( read > 0 ) { x = 1 ; } else { return ; } print x ;":        "",
		"var x : int ; while ( read > 0 ) { x = 1 ; } print a@x ;":                     "25 at a",
		"var x : int ; while ( true ) { print a@x ; x = 1 ; }":                         "25 at a",
		"var x : int ; while ( a@x > 0 ) { x = 1 ; }":                                  "25 at a",
		"while ( read > 0 ) { var x : int ; if ( read > 0 ) { x = 1 ; } print a@x ; }": "25 at a",
		"var x : int ; { var x : int = 1 ; print x ; x = 2 ; } print a@x ;":            "25 at a",
		"var x : int ; { x = 1 ; } print x ;":                                          "",
		"var x : int ; f ( a@x , 1 + b@x ) ;":                                          "25 at a, 25 at b",
		"var x : int ; print a@f ( b@x , 1 ) ;":                                        "23 at a, 25 at b",
		"var x : int ; assert c@x > 0 ; return ;":                                      "25 at c",
		"var x : int ; return ; a@print x ;":                                           "28 at a",
		"var x : int ; g = 1 ; print g ;":                                              "",
	} {
		text = "var g : int ; fn f ( p : int , q : int ) { print p ; } fn main ( ) { " + text + " }"
		expect(t, text, want)
	}
}

// facts compares all facts of a program with what is wanted.
func expectFacts(t *testing.T, text, want string) {
	t.Helper()
	plainText, marks := marked(text)
	var lines []string
	for line := range strings.SplitSeq(want, "\n") {
		lines = append(lines, toks(line, marks))
	}
	if got := shown(plain(t, program(t, plainText), 0)); got != strings.Join(lines, "\n") {
		t.Errorf("%s\nhas\n%s\nwant\n%s", text, got, strings.Join(lines, "\n"))
	}
}

func TestFacts(t *testing.T) {
	expectFacts(t, "fn main ( ) { var d@x : int ; print u@x ; }",
		"use u d\ntype u 1\nflow u d\nerror u 25")
	expectFacts(t, "fn main ( ) { var d@x : int ; a@x = r@read ; print u@x ; }",
		"use a d\ntype r 1\nuse u d\ntype u 1\nflow u a")
	expectFacts(t, "fn f@f ( p@p : bool ) : bool { return q@p ; } fn main ( ) { c@f ( t@true ) ; print d@f ( o@! v@false ) ; }",
		"use q p\ntype q 2\nflow q p\nuse c f\ntype t 2\nuse d f\ntype d 2\ntype o 2\ntype v 2")
	expectFacts(t, "var g@g : int = n@1 ; fn main ( ) { a@g = m@2 l@< u@g ; }",
		"type n 1\nuse a g\ntype m 1\ntype l 2\nerror l 23\nuse u g\ntype u 1")
	expectFacts(t, "var g : int = n@- c@f ( 1 ) ; fn main ( ) { }",
		"type n 1\nerror c 30")
}

func TestFlow(t *testing.T) {
	for text, want := range map[string]string{
		"var d@x : int = 1 ; while ( read > 0 ) { a@x = 2 ; } print u@x ;":                                  "flow u d, flow u a",
		"var d@x : int = 1 ; while ( u@x > 0 ) { a@x = v@x ; b@x = 3 ; }":                                   "flow u d, flow u b, flow v d, flow v b",
		"var d@x : int = 1 ; if ( read > 0 ) { a@x = 2 ; } else { b@x = 3 ; } print u@x ;":                  "flow u a, flow u b",
		"var d@x : int = 1 ; if ( read > 0 ) { a@x = 2 ; return ; } print u@x ;":                            "flow u d",
		"var d@x : int = 1 ; if ( read > 0 ) { a@x = 2 ; } else if ( u@x > 0 ) { b@x = 3 ; } print v@x ;":   "flow u d, flow v d, flow v a, flow v b",
		"var d@x : int = 1 ; while ( true ) { a@x = 2 ; if ( read > 0 ) { return ; } } print u@x ;":         "",
		"while ( read > 0 ) { var d@x : int = 1 ; print u@x ; a@x = 2 ; }":                                  "flow u d",
		"var d@x : int = 1 ; while ( read > 0 ) { while ( read > 0 ) { print u@x ; a@x = 2 ; } b@x = 3 ; }": "flow u d, flow u a, flow u b",
		"var d@x : int = 1 ; while ( read > 0 ) { while ( read > 0 ) { a@x = 2 ; return ; } print u@x ; }":  "flow u d",
		"var d@x : int = 1 ; while ( read > 0 ) { while ( true ) { a@x = 2 ; } } print u@x ;":               "flow u d",
		"var d@x : int = 1 ; { a@x = 2 ; var e@x : int = u@x ; print v@x ; } print w@x ;":                   "flow u a, flow v e, flow w a",
		"var d@x : int = 1 ; var e@x : int = u@x ; print v@x ;":                                             "flow u d, flow v d",
		"var d@x : bool = true ; a@x = u@x && ! v@x ;":                                                      "flow u d, flow v d",
		"var d@x : int = 1 ; return ; while ( read > 0 ) { while ( read > 0 ) { x = 2 ; } print x ; }":      "",
		"return ; var d@x : int = 1 ; print u@x ;":                                                          "",
	} {
		plainText, marks := marked("fn main ( ) { " + text + " }")
		var got []string
		for _, f := range plain(t, program(t, plainText), 0) {
			if f.Kind == api.FactFlow {
				got = append(got, shown([]check.Fact{f}))
			}
		}
		if list := strings.Join(got, ", "); list != toks(want, marks) {
			t.Errorf("%s\nhas %q, want %q", text, list, toks(want, marks))
		}
	}
}

func TestNoProgram(t *testing.T) {
	x := parsed(t, "#ifdef A\nprint\n#endif\nfn main() { print y; }")
	if l := plain(t, x, 1); len(l) != 0 {
		t.Error("facts without a program:", shown(l))
	}
	if l := plain(t, x, 2|1<<30); errors(l) != "21 at 7" {
		t.Error("facts of a program:", shown(l))
	}
	without := diagram.Cube(0, 1)
	for _, within := range []diagram.D{diagram.True(), without} {
		for _, f := range family(t, x, within) {
			if !f.Cond.Same(without) {
				t.Error("facts:", shown([]check.Fact{f}))
			}
		}
	}
	for _, within := range []diagram.D{diagram.False(), diagram.Cube(1, 0)} {
		if l := family(t, x, within); len(l) != 0 {
			t.Error("facts without a program:", shown(l))
		}
	}
	if l := family(t, syntax.Tree{}, diagram.True()); len(l) != 0 {
		t.Error("facts without a tree:", shown(l))
	}
}

func TestInvalidTrees(t *testing.T) {
	good := parsed(t, "fn main() { print 1; }")
	noType := node(api.Program, "", -1, 0, node(api.Var, "x", 1, 0))
	cycle := node(api.Block, "", 1, 0, syntax.Node{})
	cycle.Kids[0] = cycle
	for k, x := range []syntax.Tree{
		{Kids: []syntax.Node{node(api.Block, "", 1, 0)}},
		{Kids: []syntax.Node{noType}},
		{Kids: append(good.Kids, good.Kids...)},
		{Kids: good.Kids, Diags: []syntax.Diag{{Code: api.CodeSyntax, Tok: 1, Cond: diagram.True()}}},
		{Kids: []syntax.Node{cycle}},
		changed(good, func(n syntax.Node) syntax.Node { n.Tok = 3; return n }),
		changed(good, func(n syntax.Node) syntax.Node { n.Kind = 99; return n }),
	} {
		all := diagram.True()
		l, e1 := check.Plain(x, 0)
		m, e2 := check.Family(x, all)
		d, e3 := check.Clean(x, all)
		i, e4 := check.Interface(x, all)
		c, e5 := check.Calls(x, all)
		r, e6 := check.Reached(x, all)
		u, e7 := check.Unused(x, all)
		for n, e := range []api.Errno{e1, e2, e3, e4, e5, e6, e7} {
			if e != api.ErrArg {
				t.Error(k, n, e)
			}
		}
		if len(l)+len(m)+len(i)+len(c)+len(r)+len(u) > 0 || !d.Empty() {
			t.Error(k, "results with an error")
		}
	}
}

func TestDeepTrees(t *testing.T) {
	const levels = api.MaxTokens - 8
	unary := node(api.Number, "1", 2*levels, 0)
	for k := range levels {
		unary = node(api.Unary, "-", 2*levels-1-k, 0, unary)
	}
	l := family(t, inMain(t, node(api.Print, "", 2, 0, unary)), diagram.True())
	if len(l) != levels+1 || errors(l) != "" {
		t.Error("a deep expression:", len(l))
	}
	blocks := node(api.Return, "", 2*levels, 0)
	for k := range levels {
		blocks = node(api.Block, "", 2*levels-1-k, 0, blocks)
	}
	end := node(api.Return, "", 3*levels, 0)
	l = plain(t, inMain(t, blocks, end), 0)
	if shown(l) != "error "+toks("end", map[string]int{"end": 3 * levels})+" 28" {
		t.Error("deep Blocks:", shown(l))
	}
}

// Loops in loops in loops: if each were executed again and again by itself, this would take too long.
func TestDeepLoops(t *testing.T) {
	const levels = 60
	text := "fn main() {\nvar x : int = 0;\n" + strings.Repeat("while (x < 3) {\n", levels) + "x = 1;\n" +
		strings.Repeat("x = x + 1; }\n", levels) + "print x; }"
	l := family(t, program(t, text), diagram.True())
	flows := 0
	for _, f := range l {
		if f.Kind == api.FactFlow {
			flows++
		}
	}
	want := 2 + 1 // the print after the first loop; the x behind x = 1
	for level := 1; level <= levels; level++ {
		want += 1 + level // the condition: by the Var, and by the last Assign of each loop around it
		if level > 1 {
			want += 1 + level // the x behind the loop: by all that reaches its condition
		}
	}
	if flows != want || errors(l) != "" {
		t.Error("flows:", flows, want, errors(l))
	}
}
