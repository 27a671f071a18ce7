package syntax_test

import (
	"slices"
	"strings"
	"testing"

	"motley/api"
	"motley/diagram"
	"motley/source"
	"motley/syntax"
)

// P7.1: what is said of one configuration.

func TestPlainTrees(t *testing.T) {
	const before, after = "Program(0:Fn f@1(2:Block@4", "))"
	inBlock := func(kids string) string { return before + "(" + kids + ")" + after }
	for text, want := range map[string]string{
		"":                           "Program",
		"fn f ( ) { }":               before + after,
		"var x : int ;":              "Program(0:Var x@1(0:TypeName int@3))",
		"var x : bool = 1 ;":         "Program(0:Var x@1(0:TypeName bool@3 1:Number 1@5))",
		"var x : int ; fn g ( ) { }": "Program(0:Var x@1(0:TypeName int@3) 0:Fn g@6(2:Block@9))",
		"fn f ( a : int ) { }":       "Program(0:Fn f@1(0:Param a@3(0:TypeName int@5) 2:Block@7))",
		"fn f ( a : int , b : bool ) : int { }": "Program(0:Fn f@1(0:Param a@3(0:TypeName int@5) " +
			"0:Param b@7(0:TypeName bool@9) 1:TypeName int@12 2:Block@13))",
		"fn f ( ) : bool { }":                  "Program(0:Fn f@1(1:TypeName bool@5 2:Block@6))",
		"fn f ( ) { var x : int ; }":           inBlock("0:Var x@6(0:TypeName int@8)"),
		"fn f ( ) { x = y ; }":                 inBlock("0:Assign x@5(0:Name y@7)"),
		"fn f ( ) { g ( ) ; }":                 inBlock("0:Call g@5"),
		"fn f ( ) { g ( 1 , h ( ) , x ) ; }":   inBlock("0:Call g@5(0:Number 1@7 0:Call h@9 0:Name x@13)"),
		"fn f ( ) { if ( x ) { } }":            inBlock("0:If@5(0:Name x@7 1:Block@9)"),
		"fn f ( ) { if ( x ) { } else { } }":   inBlock("0:If@5(0:Name x@7 1:Block@9 2:Block@12)"),
		"fn f ( ) { if ( x ) { ; } }":          "10 at 10",
		"fn f ( ) { while ( x ) { { } { } } }": inBlock("0:While@5(0:Name x@7 1:Block@9(0:Block@10 0:Block@12))"),
		"fn f ( ) { if ( x ) { } else if ( y ) { } else if ( z ) { } else { } }": inBlock(
			"0:If@5(0:Name x@7 1:Block@9 2:If@12(0:Name y@14 1:Block@16 2:If@19(0:Name z@21 1:Block@23 2:Block@26)))"),
		"fn f ( ) { if ( x ) { } { } }":           inBlock("0:If@5(0:Name x@7 1:Block@9) 0:Block@11"),
		"fn f ( ) { return ; return - 1 ; }":      inBlock("0:Return@5 0:Return@7(0:Unary -@8(0:Number 1@9))"),
		"fn f ( ) { print x ; assert true ; }":    inBlock("0:Print@5(0:Name x@6) 0:Assert@8(0:Bool true@9)"),
		"fn f ( ) { print read ; print false ; }": inBlock("0:Print@5(0:Read@6) 0:Print@8(0:Bool false@9)"),
		"fn main ( ) { print 1 + 2 * 3 ; }": "Program(0:Fn main@1(2:Block@4(0:Print@5(0:Binary +@7(0:Number 1@6 " +
			"1:Binary *@9(0:Number 2@8 1:Number 3@10))))))",
	} {
		got := plain(t, text)
		if outcome(got) != want {
			t.Errorf("%s:\n got %s\nwant %s", text, outcome(got), want)
		}
		if !universal(got) {
			t.Errorf("%s: a condition is not True", text)
		}
	}
}

// An error is at the first token with which no program can go on.
func TestPlainSyntaxErrors(t *testing.T) {
	for text, want := range map[string]int{
		"print 1":                            0,
		"fn f ( ) { x = 1 }":                 8,
		"var x : int":                        4,
		"}":                                  0,
		"var":                                1,
		"var 1":                              1,
		"var if : int ;":                     1,
		"var read : int ;":                   1,
		"fn true ( ) { }":                    1,
		"var x int":                          2,
		"var x : x":                          3,
		"var x : int : int":                  4,
		"var x : int = ;":                    5,
		"var x : int = 1":                    6,
		"var x : int = 1 , 2 ;":              6,
		"fn f { }":                           2,
		"fn f ( a":                           4,
		"fn f ( , ) { }":                     3,
		"fn f ( a : int , ) { }":             7,
		"fn f ( a : int b":                   6,
		"fn f ( a , b : int ) { }":           4,
		"fn f ( ) : { }":                     5,
		"fn f ( ) ;":                         4,
		"fn f ( ) {":                         5,
		"fn f ( ) { } }":                     6,
		"fn f ( ) { } print":                 6,
		"fn f ( ) { fn g ( ) { } }":          5,
		"fn f ( ) { ; }":                     5,
		"fn f ( ) { x ; }":                   6,
		"fn f ( ) { x : }":                   6,
		"fn f ( ) { int = 1 ; }":             5,
		"fn f ( ) { 1 ; }":                   5,
		"fn f ( ) { f ( ) }":                 8,
		"fn f ( ) { f ( ) + 1 ; }":           8,
		"fn f ( ) { f ( , ) ; }":             7,
		"fn f ( ) { f ( 1 , ) ; }":           9,
		"fn f ( ) { f ( 1 2 ) ; }":           8,
		"fn f ( ) { else { } }":              5,
		"fn f ( ) { if x { } }":              6,
		"fn f ( ) { if ( ) { } }":            7,
		"fn f ( ) { if ( x ) print 1":        9,
		"fn f ( ) { if ( x ) { } else print": 12,
		"fn f ( ) { if ( x ) { } else { } else { } }":    14,
		"fn f ( ) { if ( x ) { } else while ( x ) { } }": 12,
		"fn f ( ) { while ( x ; } ":                      8,
		"fn f ( ) { while ( x ) { } else { } }":          11,
		"fn f ( ) { return 1 }":                          7,
		"fn f ( ) { return if":                           6,
		"fn f ( ) { print ; }":                           6,
		"fn f ( ) { print 1 < 2 < 3 ; }":                 9,
		"fn f ( ) { print 1 < 2 + 3 == 3 ; }":            11,
		"fn f ( ) { print 1 == - 2 != 3 ; }":             10,
		"fn f ( ) { print ( 1 < 2 ) < 3 ; }":             -1,
		"fn f ( ) { print 1 < 2 && 2 < 3 || 3 < 4 ; }":   -1,
		"fn f ( ) { print 1 + ; }":                       8,
		"fn f ( ) { print + 1 ; }":                       6,
		"fn f ( ) { print ! ; }":                         7,
		"fn f ( ) { print ( 1 ; }":                       8,
		"fn f ( ) { print 1 ) ; }":                       7,
		"fn f ( ) { print ( ) ; }":                       7,
		"fn f ( ) { print ( x ) ( 1 ) ; }":               9,
		"fn f ( ) { print 1 ( 2 ) ; }":                   7,
		"fn f ( ) { print x = 1 ; }":                     7,
		"fn f ( ) { print f ( ) ( ) ; }":                 9,
		"fn f ( ) { print 1 1 ; }":                       7,
		"fn f ( ) { print read ( ) ; }":                  7,
	} {
		got := plain(t, text)
		if want < 0 {
			if len(got.Kids) != 1 || len(got.Diags) != 0 {
				t.Errorf("%s: %s", text, outcome(got))
			}
			continue
		}
		if len(got.Kids) != 0 || !slices.Equal(got.Diags, []syntax.Diag{{Code: api.CodeSyntax, Tok: want, Cond: diagram.True()}}) {
			t.Errorf("%s: %s, want an error at %d", text, outcome(got), want)
		}
	}
}

// Tokens that are not proper fit nowhere.
func TestPlainProperTokens(t *testing.T) {
	good := tokens(t, "var x : int = 7 ;")
	for k, wrong := range map[int][]source.Token{
		0: {{Kind: api.TokSign, Text: "var"}, {Kind: 0, Text: "var"}, {Kind: 9, Text: "var"}},
		1: {
			{Kind: api.TokNumber, Text: "x"}, {Kind: api.TokName, Text: ""}, {Kind: api.TokName, Text: "x "},
			{Kind: api.TokName, Text: " x"}, {Kind: api.TokName, Text: "x // y"}, {Kind: api.TokName, Text: "x y"},
			{Kind: api.TokName, Text: "1x"}, {Kind: api.TokName, Text: "x\n"}, {Kind: api.TokName, Text: strings.Repeat("x", 33)},
		},
		2: {{Kind: api.TokName, Text: ":"}, {Kind: api.TokSign, Text: "::"}},
		5: {
			{Kind: api.TokNumber, Text: "07"}, {Kind: api.TokNumber, Text: "2147483648"}, {Kind: api.TokNumber, Text: "-7"},
			{Kind: api.TokName, Text: "7"},
		},
		6: {{Kind: api.TokSign, Text: ""}, {Kind: api.TokSign, Text: "; // ;"}},
	} {
		for _, x := range wrong {
			l := source.List{Tokens: slices.Clone(good.Tokens)}
			x.Cond = diagram.True()
			l.Tokens[k] = x
			if got := syntax.Plain(l, 0); len(got.Kids) != 0 || len(got.Diags) != 1 || got.Diags[0].Tok != k || got.Diags[0].Code != api.CodeSyntax {
				t.Errorf("%v: %s", x, outcome(got))
			}
		}
	}
	l := tokens(t, "var "+strings.Repeat("x", 32)+" : int = 2147483647 ;")
	if got := syntax.Plain(l, 0); len(got.Kids) != 1 {
		t.Error("the longest name and the greatest number:", outcome(got))
	}
}

// The number of a token is its index in the list, also where others are not in the configuration.
func TestPlainNumbers(t *testing.T) {
	l := some(t, "[a var x : int ; ] [b fn f ( ) { } ] [c }")
	for c, want := range map[uint32]string{
		0:            "Program",
		1:            "Program(0:Var x@1(0:TypeName int@3))",
		2:            "Program(0:Fn f@6(2:Block@9))",
		3:            "Program(0:Var x@1(0:TypeName int@3) 0:Fn f@6(2:Block@9))",
		4:            "10 at 11",
		7:            "10 at 11",
		1 | 1<<24:    "Program(0:Var x@1(0:TypeName int@3))",
		1<<31 | 1<<3: "Program",
	} {
		if got := syntax.Plain(l, c); outcome(got) != want || !universal(got) {
			t.Errorf("%b: %s, want %s", c, outcome(got), want)
		}
	}
	if got := syntax.Plain(some(t, "var x : [a int ; "), 0); outcome(got) != "10 at 5" {
		t.Error("the end of all tokens of the list:", outcome(got))
	}
}

// Exactly MaxNest levels may be open.
func TestPlainNest(t *testing.T) {
	const fn, end = "fn f ( ) { ", " }"
	most := api.MaxNest - 1 // besides the Block of the Fn
	for name, c := range map[string]struct {
		before, open, middle, closed, after string
		width                               int // tokens of open
		least                               int // levels besides: so many fewer may be opened
	}{
		"blocks":       {"", "{ ", "", "} ", "", 1, 0},
		"parens":       {"print ", "( ", "1 ", ") ", ";", 1, 0},
		"signs":        {"print ", "- ", "1 ", "", ";", 1, 0},
		"other signs":  {"print ", "! ", "1 ", "", ";", 1, 0},
		"calls":        {"print ", "g ( ", "1 ", ") ", ";", 2, 0},
		"later args":   {"g ( 1 , ", "g ( 1 , ", "1 ", ") ", ") ;", 4, 1},
		"behind signs": {"print ", "- ", "g ( ) ", "", ";", 1, 1},
		"mixed":        {"print ", "- ( ", "1 ", ") ", "* 1 ;", 2, 0},
	} {
		opened := most - c.least
		if name == "mixed" {
			opened = (most - 1) / 2
			c.before, c.after = "print ( ", ") "+c.after
		}
		text := func(n int) string {
			return fn + c.before + strings.Repeat(c.open, n) + c.middle + strings.Repeat(c.closed, n) + c.after + end
		}
		if got := plain(t, text(opened)); len(got.Kids) != 1 {
			t.Errorf("%s: %d levels: %s", name, api.MaxNest, outcome(got))
		}
		got := plain(t, text(opened+1))
		if len(got.Diags) != 1 || got.Diags[0].Code != api.CodeNest {
			t.Fatalf("%s: %d levels: %s", name, api.MaxNest+1, outcome(got))
		}
		if want := refer(tokens(t, text(opened+1)), 0); !syntax.Same(got, want) {
			t.Errorf("%s: %s, want %s", name, outcome(got), outcome(want))
		}
	}
}

// An if behind an else is open until it has ended; what has ended is open no more.
func TestPlainNestOfChains(t *testing.T) {
	const fn, first, more, end = "fn f ( ) { ", "if ( x ) { } ", "else if ( x ) { } ", "}"
	chain := func(n int) string { return first + strings.Repeat(more, n) }
	// The { } of the Fn, and the ( of the last if, are open, too.
	if got := plain(t, fn+chain(api.MaxNest-2)+end); len(got.Kids) != 1 {
		t.Error("a long chain:", outcome(got))
	}
	got := plain(t, fn+chain(api.MaxNest-1)+end)
	if want := 5 + 6 + 7*(api.MaxNest-2) + 2; outcome(got) != "11 at "+itoa(want) {
		t.Error("the ( of the last if of a chain that is too long:", outcome(got), want)
	}
	got = plain(t, fn+strings.Replace(chain(api.MaxNest-1), "else if ( x ) { } ", "else if ( x ) { } ", 1)+"else if")
	if len(got.Diags) != 1 || got.Diags[0].Code != api.CodeNest {
		t.Error("one more:", outcome(got))
	}
	if got := plain(t, fn+strings.Repeat(chain(api.MaxNest-2), 3)+end); len(got.Kids) != 1 {
		t.Error("chains one after the other:", outcome(got))
	}
	if got := plain(t, fn+"print "+strings.Repeat("- - ( 1 ) + ", 100)+"1 ; "+end); len(got.Kids) != 1 {
		t.Error("operands that have ended:", outcome(got))
	}
	signs := strings.Repeat("- ", api.MaxNest-1)
	for _, before := range []string{
		"print ( 1 ) + ", "print - 1 + ", "print g ( 1 ) + ", "print - g ( ) * ", "print ! ( 1 ) < ", "return 1 && ",
		"if ( - ( x ) ) { } x = ", "while ( g ( x , x ) ) { { } } var x : int = ", "if ( x ) { } else if ( x ) { } assert ",
		"g ( 1 , ( 1 ) , - 1 , g ( ) ) ; return ", "var x : int ; print ", "{ } print ", "while ( x ) { } print ",
		"if ( x ) { } print ", "if ( x ) { } else { } print ", "return ; print ", "return 1 ; print ", "assert 1 ; print ",
		"print 1 ; print ", "x = 1 ; print ", "} var x : int = 1 ; fn g ( x : int , y : int ) : int { print ",
		"} fn g ( ) { } fn g ( ) { print ",
	} {
		if got := plain(t, fn+before+signs+"1 ; "+end); len(got.Kids) != 1 {
			t.Errorf("the levels behind %s: %s", before, outcome(got))
		}
		if got := plain(t, fn+before+"- "+signs+"1 ; "+end); len(got.Diags) != 1 || got.Diags[0].Code != api.CodeNest {
			t.Errorf("one level too many behind %s: %s", before, outcome(got))
		}
	}
	for before, after := range map[string]string{
		"g ( 1 , ( 1 ) , - 1 , g ( ) , ": ") ; ", "print ( ( 1 ) + - ( 1 ) * ": ") ; ", "g ( g ( 1 ) , ": ") ; ",
		"if ( ": ") { } ", "while ( ": ") { } ", "if ( x ) { print ": "; } ", "if ( x ) { } else { print ": "; } ",
		"while ( x ) { print ": "; } ", "{ print ": "; } ",
	} {
		if got := plain(t, fn+before+signs[2:]+"1 "+after+end); len(got.Kids) != 1 {
			t.Errorf("the levels within %s: %s", before, outcome(got))
		}
		if got := plain(t, fn+before+signs+"1 "+after+end); len(got.Diags) != 1 || got.Diags[0].Code != api.CodeNest {
			t.Errorf("one level too many within %s: %s", before, outcome(got))
		}
	}
	deep := strings.Repeat("{ ", api.MaxNest-2)
	if got := plain(t, fn+deep+"if ( x ) { } else if"+strings.Repeat(" }", api.MaxNest-1)); outcome(got) != "10 at "+itoa(5+api.MaxNest-2+8) {
		t.Error("the level of an if that is the last one:", outcome(got))
	}
	deep += "{ "
	if got := plain(t, fn+deep+"x = 1 ; return ; f"); outcome(got) != "10 at "+itoa(5+api.MaxNest-1+7) {
		t.Error("what opens no level:", outcome(got))
	}
	if got := plain(t, fn+deep+"f ("); outcome(got) != "11 at "+itoa(5+api.MaxNest-1+1) {
		t.Error("a call that opens one level too many:", outcome(got))
	}
	if got := plain(t, fn+deep+"( ("); outcome(got) != "10 at "+itoa(5+api.MaxNest-1) {
		t.Error("a ( that is no statement is a CodeSyntax:", outcome(got))
	}
}

// Exactly MaxTokens tokens may be there; the one behind them is a CodeSize, whatever it is.
func TestPlainSize(t *testing.T) {
	fill := func(n int) string { // n tokens of a program: 5 for each Var, 7 for one with a value
		text := ""
		for ; n%5 != 0; n -= 7 {
			text += "var x : int = 1 ; "
		}
		return text + strings.Repeat("var x : int ; ", n/5)
	}
	whole := fill(api.MaxTokens)
	if got := plain(t, whole); len(got.Kids) != 1 || len(got.Diags) != 0 {
		t.Fatal("MaxTokens tokens:", len(got.Kids), got.Diags)
	}
	for _, more := range []string{"var", "}", "fn", "var x", "; ;"} {
		if got := plain(t, whole+more); outcome(got) != "12 at "+itoa(api.MaxTokens) {
			t.Errorf("MaxTokens tokens and %s: %s", more, outcome(got))
		}
	}
	l := tokens(t, whole+"x")
	l.Tokens[api.MaxTokens] = source.Token{Kind: 9, Text: "?", Cond: diagram.True()}
	if got := syntax.Plain(l, 0); outcome(got) != "12 at "+itoa(api.MaxTokens) {
		t.Error("MaxTokens tokens and one that is not proper:", outcome(got))
	}
	for text, want := range map[string]string{
		fill(api.MaxTokens-4) + "var x : int":                                                  "10 at " + itoa(api.MaxTokens),
		fill(api.MaxTokens-1) + "} } }":                                                        "10 at " + itoa(api.MaxTokens-1),
		fill(api.MaxTokens-5) + "fn f ( ) { {":                                                 "12 at " + itoa(api.MaxTokens),
		fill(api.MaxTokens-5-api.MaxNest) + "fn f ( ) {" + strings.Repeat(" {", api.MaxNest+1): "11 at " + itoa(api.MaxTokens-1),
	} {
		if got := plain(t, text); outcome(got) != want {
			t.Errorf("%s: %s, want %s", text[len(text)-20:], outcome(got), want)
		}
	}
}

func itoa(n int) string { return outcome(syntax.Tree{Diags: []syntax.Diag{{Tok: n}}})[len("0 at "):] }

// Tokens that are not in the configuration do not count.
func TestPlainSizeOfConfiguration(t *testing.T) {
	l := tokens(t, strings.Repeat("var x : int ; ", api.MaxTokens/5)+"var x : int ; var x : int ;")
	for k := range 10 {
		l.Tokens[100+k].Cond = diagram.Cube(1, 0)
	}
	if got := syntax.Plain(l, 0); len(got.Kids) != 1 {
		t.Error("without the tokens of A:", outcome(got))
	}
	if got := syntax.Plain(l, 1); outcome(got) != "12 at "+itoa(api.MaxTokens) {
		t.Error("with the tokens of A:", outcome(got))
	}
}

func TestPlainAgainstReference(t *testing.T) {
	d := newDice()
	errors := 0
	for range 4000 {
		l := someList(t, d, 2, max(0, d.roll(5)-2))
		for c := range uint32(4) {
			got, want := syntax.Plain(l, c), refer(l, c)
			if !syntax.Same(got, want) {
				t.Fatalf("%s, %b:\n got %s\nwant %s", words(l), c, outcome(got), outcome(want))
			}
			errors += len(got.Diags)
		}
	}
	if errors < 4000 || errors > 14000 {
		t.Error("most lists should have neither only errors nor none:", errors)
	}
}
