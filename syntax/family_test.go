package syntax_test

import (
	"strings"
	"testing"

	"motley/api"
	"motley/diagram"
	"motley/source"
	"motley/syntax"
)

const features = 3 // of the lists that are made by dice

// eachList calls check for some lists of tokens.
func eachList(t *testing.T, count int, check func(l source.List, d *dice)) {
	t.Helper()
	d := newDice()
	for range count {
		check(someList(t, d, features, max(0, d.roll(5)-2)), d)
	}
}

// only has the configuration c, whatever features it has from the given number on.
func only(c uint32) diagram.D { return diagram.Cube(c, (1<<features-1)&^c) }

// merged is the family tree for within, as the chapter defines it.
func merged(l source.List, within diagram.D) syntax.Tree {
	var trees []syntax.Tree
	for c := range within.All(features) {
		trees = append(trees, syntax.Restrict(refer(l, c), only(c)))
	}
	return syntax.Merge(trees)
}

// P7.1

func TestFamilyIsTheMerge(t *testing.T) {
	variants, both := 0, 0
	eachList(t, 1500, func(l source.List, d *dice) {
		for _, within := range []diagram.D{diagram.True(), someSet(d, features)} {
			got, want := syntax.Family(l, within), merged(l, within)
			if !syntax.Same(got, want) {
				t.Fatalf("%s:\n got %s\nwant %s", words(l), outcome(got), outcome(want))
			}
			if l, _ := syntax.Variants(got); len(l) > 0 {
				variants++
			}
			if len(got.Kids) > 0 && len(got.Diags) > 0 {
				both++
			}
		}
	})
	if variants < 500 || both < 300 {
		t.Error("too few trees in which configurations differ:", variants, both)
	}
}

func TestFamilyOfTheChapter(t *testing.T) {
	a, b := diagram.Cube(1, 0), diagram.Cube(0, 1)
	x := parsed(t, "[a var x : int ; ] [A var x : bool ; ]")
	if outcome(x) != "Program(0:Var x@1(0:TypeName int@3) 0:Var x@6(0:TypeName bool@8))" {
		t.Error("two variables:", outcome(x))
	}
	if !x.Kids[0].Cond.Full() || !x.Kids[0].Kids[0].Cond.Same(a) || !x.Kids[0].Kids[1].Kids[0].Cond.Same(b) {
		t.Error("the conditions of two variables")
	}
	x = parsed(t, "var x : [a int ; ] [A bool ; ]")
	if outcome(x) != "Program(0:Var x@1(0:TypeName int@3 0:TypeName bool@5))" {
		t.Error("two types:", outcome(x))
	}
	if v := x.Kids[0].Kids[0]; !v.Cond.Full() || !v.Kids[0].Cond.Same(a) || !v.Kids[1].Cond.Same(b) {
		t.Error("the conditions of two types")
	}
	// Of the overview: one Fn, whose Block has two statements Print.
	x = parsed(t, "fn main ( ) { [b print 1 ; ] [B print 2 / read ; ] }")
	if outcome(x) != "Program(0:Fn main@1(2:Block@4(0:Print@5(0:Number 1@6) 0:Print@8(0:Binary /@10(0:Number 2@9 1:Read@11)))))" {
		t.Error("two statements:", outcome(x))
	}
}

// A node may be at different places, and be different nodes, in different configurations.
func TestFamilyPlaces(t *testing.T) {
	for text, want := range map[string]string{
		"var x : int = 1 [a + 2 ] * 3 ;": "Program(0:Var x@1(0:TypeName int@3 1:Binary +@6(0:Number 1@5 " +
			"1:Binary *@8(0:Number 2@7 1:Number 3@9)) 1:Binary *@8(0:Number 1@5 1:Number 3@9)))",
		"fn f ( ) { x [a ( ] [A = ] 1 [a ) ] ; }": "Program(0:Fn f@1(2:Block@4(0:Assign x@5(0:Number 1@8) " +
			"0:Call x@5(0:Number 1@8))))",
		"fn f ( ) { x = [a y ] - 1 ; }": "Program(0:Fn f@1(2:Block@4(0:Assign x@5(0:Binary -@8(0:Name y@7 1:Number 1@9) " +
			"0:Unary -@8(0:Number 1@9)))))",
		"var x : int = [a ( ] [b ( ] 1 [b ) ] [a ) ] ;": "Program(0:Var x@1(0:TypeName int@3 1:Number 1@7))",
		"fn f ( ) { [a if ( x ) ] { y = 1 ; } }": "Program(0:Fn f@1(2:Block@4(0:If@5(0:Name x@7 " +
			"1:Block@9(0:Assign y@10(0:Number 1@12))) 0:Block@9(0:Assign y@10(0:Number 1@12)))))",
		"fn f ( [a x : int ] [a , ] [b y : int ] ) { }": "Program(0:Fn f@1(0:Param x@3(0:TypeName int@5) " +
			"0:Param y@7(0:TypeName int@9) 2:Block@11)) 10 at 10",
		"fn f ( ) { if ( x ) { } [a else ] { } }": "Program(0:Fn f@1(2:Block@4(0:If@5(0:Name x@7 1:Block@9 2:Block@12) 0:Block@12)))",
	} {
		if got := parsed(t, text); outcome(got) != want {
			t.Errorf("%s:\n got %s\nwant %s", text, outcome(got), want)
		}
	}
}

// Each configuration has an error of its own.
func TestFamilyErrors(t *testing.T) {
	x := parsed(t, "var x : [a ; ] [b } ] [c int ] ;")
	want := []syntax.Diag{
		{Code: api.CodeSyntax, Tok: 3, Cond: diagram.Cube(1, 0)},
		{Code: api.CodeSyntax, Tok: 4, Cond: diagram.Cube(2, 1)},
		{Code: api.CodeSyntax, Tok: 6, Cond: diagram.Cube(0, 7)},
	}
	if len(x.Kids) != 1 || !x.Kids[0].Cond.Same(diagram.Cube(4, 3)) || !syntax.Same(syntax.Tree{Diags: x.Diags}, syntax.Tree{Diags: want}) {
		t.Error("three errors:", outcome(x))
	}
	nest := "fn f ( ) { print " + strings.Repeat("- ", api.MaxNest-2) + "[a - ] - 1 ; }"
	x = parsed(t, nest)
	if at := 6 + api.MaxNest - 1; len(x.Diags) != 1 || x.Diags[0].Code != api.CodeNest || x.Diags[0].Tok != at || !x.Diags[0].Cond.Same(diagram.Cube(1, 0)) {
		t.Error("one level too many where A is:", x.Diags)
	}
	x = syntax.Family(some(t, "[a ; ] [A } ]"), diagram.Cube(2, 0))
	if len(x.Diags) != 2 || !x.Diags[0].Cond.Same(diagram.Cube(3, 0)) || !x.Diags[1].Cond.Same(diagram.Cube(2, 1)) {
		t.Error("within a condition:", x.Diags)
	}
	x = syntax.Family(some(t, "[a ; ] var"), diagram.False())
	if len(x.Kids) != 0 || len(x.Diags) != 0 {
		t.Error("within nothing:", outcome(x))
	}
}

// Each configuration has its own MaxTokens tokens.
func TestFamilySize(t *testing.T) {
	const statement = "var x : int ; "
	text := strings.Repeat(statement, 100) + "[a var x : int ; [b var x : int ; ] ] [c " + strings.Repeat(statement, 5) + "] " +
		"[A var x : int ; ] "
	text += strings.Repeat(statement, (api.MaxTokens-5*104)/5)
	text += "[b var x : int = 1 ; ] [a " + strings.Repeat(statement, 3) + "] ; ;"
	l := some(t, text)
	x := syntax.Family(l, diagram.True())
	codes := map[api.Code]bool{}
	for c := range uint32(8) {
		want := refer(l, c)
		if !syntax.Same(syntax.Project(x, c), want) {
			t.Errorf("%b: %v, want %v", c, syntax.Project(x, c).Diags, want.Diags)
		}
		for _, g := range want.Diags {
			codes[g.Code] = true
		}
	}
	if len(codes) != 2 || len(x.Diags) < 4 || !syntax.Valid(x) {
		t.Error("the errors:", x.Diags)
	}
}

// A configuration may come to MaxTokens by some tokens, and then pass over others.
func TestFamilySizeBehindOthers(t *testing.T) {
	const statement, longer = "var x : int ; ", "var x : int = 1 ; "
	text := "[a " + statement + "] " + longer + longer + strings.Repeat(statement, (api.MaxTokens-5-2*7)/5)
	x := parsed(t, text+"[A "+statement+"] [a var ] var")
	const end = api.MaxTokens + 5
	if outcome(x) != "12 at "+itoa(end)+" 12 at "+itoa(end+1) || !x.Diags[0].Cond.Same(diagram.Cube(1, 0)) {
		t.Error(outcome(x))
	}
}

// A list may have many more than MaxTokens tokens, as long as no configuration has.
func TestFamilyOfLongList(t *testing.T) {
	text := ""
	for k := range 12 {
		text += "[" + string(rune('a'+k%4)) + " [" + string(rune('A'+k%4+4)) + " fn f ( ) { " +
			strings.Repeat("x = 1 ; ", 470) + "} ] ] "
	}
	l := some(t, text)
	if len(l.Tokens) < api.MaxTokens*5/4 {
		t.Fatal("a short list:", len(l.Tokens))
	}
	x := syntax.Family(l, diagram.Between(15, 0, 2))
	if len(x.Diags) != 0 || !syntax.Whole(x).Same(diagram.Between(15, 0, 2)) {
		t.Error("the errors:", x.Diags)
	}
	if x := syntax.Family(l, diagram.True()); len(x.Diags) == 0 {
		t.Error("with all features there are too many tokens")
	}
}

// What many features decide is found for all of them at once, not for one configuration after the other.
func TestManyFeatures(t *testing.T) {
	optional := func(before, each, after string) string {
		var out []string
		for k := range api.MaxFeatures {
			out = append(out, "["+string(rune('a'+k))+" "+each+" ]")
		}
		return before + " " + strings.Join(out, " ") + " " + after
	}
	for name, c := range map[string]struct {
		text  string
		nodes int
		whole diagram.D
		diags int
	}{
		"declarations": {optional("", "var x : int ;", ""), 1 + 2*24, diagram.True(), 0},
		"statements":   {optional("fn f ( ) {", "if ( x ) { y = 1 ; } else { }", "}"), 3 + 6*24, diagram.True(), 0},
		"parameters":   {optional("fn f (", "a : int ,", "b : int ) { }"), 5 + 2*24, diagram.True(), 0},
		"arguments":    {optional("fn f ( ) { g (", "x ,", "y ) ; }"), 5 + 24, diagram.True(), 0},
		"parens":       {optional("fn f ( ) { x =", "(", "1 ") + optional("", ")", "; }"), 5, diagram.True(), 0},
		"opened":       {optional("fn f ( ) {", "while ( x ) {", "}"), 3, diagram.Cube(0, 1<<24-1), 1},
		"summands":     {optional("fn f ( ) { x = 1", "+ 1", "}"), 0, diagram.False(), 1},
	} {
		l := some(t, c.text)
		x := syntax.Family(l, diagram.True())
		nodes, _ := syntax.Size(x)
		if !syntax.Whole(x).Same(c.whole) || c.diags == 0 != (len(x.Diags) == 0) || c.nodes > 0 && nodes != c.nodes {
			t.Errorf("%s: %d nodes, %v, %d errors", name, nodes, syntax.Whole(x).Full(), len(x.Diags))
		}
		if !syntax.Valid(x) {
			t.Errorf("%s: the tree is not valid", name)
		}
		for _, c := range []uint32{0, 1, 1<<24 - 1, 0x555555, 0x123456, 1 << 23} {
			if want := refer(l, c); !syntax.Same(syntax.Project(x, c), want) {
				t.Errorf("%s, %x: %s, want %s", name, c, outcome(syntax.Project(x, c)), outcome(want))
			}
		}
	}
}
