package syntax_test

import (
	"slices"
	"strings"
	"testing"

	"motley/api"
	"motley/diagram"
	"motley/source"
	"motley/syntax"
)

// P7.8, P7.10, P7.13, P7.14

func TestFamilyAndConfigurations(t *testing.T) {
	uniform := 0
	eachList(t, 1200, func(l source.List, d *dice) {
		within := pick(d, diagram.True(), someSet(d, features))
		x := syntax.Family(l, within)
		if !syntax.Valid(x) {
			t.Fatalf("%s: %s is not valid", words(l), outcome(x))
		}
		parts := []diagram.D{syntax.Whole(x)}
		for _, g := range x.Diags {
			parts = append(parts, g.Cond)
		}
		if !isPartition(parts, within) {
			t.Fatalf("%s: the errors and the programs do not partition within: %s", words(l), outcome(x))
		}
		nodes, _ := syntax.Size(x)
		sum, most := 0, 0
		variants, _ := syntax.Variants(x)
		var first *syntax.Tree
		for c := range within.All(features) {
			one := syntax.Plain(l, c)
			if !syntax.Same(syntax.Project(x, c), one) {
				t.Fatalf("%s, %b: %s, want %s", words(l), c, outcome(syntax.Project(x, c)), outcome(one))
			}
			size, _ := syntax.Size(one)
			sum += size
			most = max(most, size)
			if len(variants) == 0 && syntax.Whole(x).Same(within) {
				uniform++
				if first == nil {
					first = &one
				}
				if !syntax.Same(*first, one) {
					t.Fatalf("%s, %b: there are no variants, but %s and %s", words(l), c, outcome(*first), outcome(one))
				}
			}
		}
		if nodes > sum || nodes < most {
			t.Fatalf("%s: %d nodes, of %d and %d", words(l), nodes, sum, most)
		}
	})
	if uniform < 300 {
		t.Error("too few trees without variants:", uniform)
	}
}

// isPartition reports whether sets do not meet and are a set together.
func isPartition(parts []diagram.D, whole diagram.D) bool {
	union := diagram.False()
	for _, d := range parts {
		if d.Meets(union) {
			return false
		}
		union = union.Or(d)
	}
	return union.Same(whole)
}

// P7.9

func TestFamilyWithin(t *testing.T) {
	eachList(t, 600, func(l source.List, d *dice) {
		all := syntax.Family(l, diagram.True())
		a, b := someSet(d, features+1), someSet(d, features)
		inA, inB := syntax.Family(l, a), syntax.Family(l, b)
		if !syntax.Same(inA, syntax.Restrict(all, a)) {
			t.Fatalf("%s: %s, want %s", words(l), outcome(inA), outcome(syntax.Restrict(all, a)))
		}
		if got := syntax.Merge([]syntax.Tree{inA, inB}); !syntax.Same(got, syntax.Family(l, a.Or(b))) {
			t.Fatalf("%s: %s, want %s", words(l), outcome(got), outcome(syntax.Family(l, a.Or(b))))
		}
	})
}

// P7.12

func TestFirstError(t *testing.T) {
	errors := 0
	eachList(t, 800, func(l source.List, d *dice) {
		x := syntax.Plain(l, 0)
		if len(x.Diags) == 0 || x.Diags[0].Tok == len(l.Tokens) {
			return
		}
		errors++
		at := x.Diags[0].Tok
		before := source.List{Tokens: slices.Clone(l.Tokens[:at])}
		if y := syntax.Plain(before, 0); len(y.Diags) > 0 && (y.Diags[0].Code != api.CodeSyntax || y.Diags[0].Tok != at) {
			t.Fatalf("%s: %s, but before it %s", words(l), outcome(x), outcome(y))
		}
		for range 3 {
			other := source.List{Tokens: slices.Clone(l.Tokens[:at+1])}
			other.Tokens = append(other.Tokens, tokens(t, strings.Join(someWords(d, 1), " ")).Tokens[:1]...)
			if y := syntax.Plain(other, 0); !syntax.Same(x, y) {
				t.Fatalf("%s: %s, but with something else behind it %s", words(l), outcome(x), outcome(y))
			}
		}
	})
	if errors < 200 {
		t.Error("too few errors:", errors)
	}
}

// someFile is a source with conditionals and macros, made by dice.
func someFile(d *dice) string {
	var lines []string
	for _, macro := range [][]string{{"TYPE", "int", "bool"}, {"ONE", "1", "( 1 + x )"}, {"BEGIN", "{", "{ x = 1 ;"}} {
		for _, body := range macro[1:] {
			lines = append(lines, "#ifdef "+pick(d, "A", "B", "C"), "#define "+macro[0]+" "+body, "#endif")
		}
	}
	line, open := "", 0
	for _, word := range someWords(d, max(0, d.roll(4)-2)) {
		if macro := map[string]string{"int": "TYPE", "1": "ONE", "0": "ONE", "{": "BEGIN"}[word]; macro != "" && d.roll(4) == 0 {
			word = macro
		}
		line += word + " "
		if !strings.Contains(";{}", word) && d.roll(20) > 0 {
			continue
		}
		switch d.roll(5) {
		case 0:
			lines = append(lines, "#if "+pick(d, "defined(A)", "B && !C", "A == C", "TYPE"), line)
			open++
		case 1:
			if open > 0 {
				lines = append(lines, "#endif")
				open--
			}
			lines = append(lines, line)
		case 2:
			lines = append(lines, "#ifdef "+pick(d, "A", "B", "C"), line, "#else", pick(d, line, "x = ONE ;", ""), "#endif")
		default:
			lines = append(lines, line)
		}
		line = ""
	}
	lines = append(lines, line)
	return strings.Join(lines, "\n") + strings.Repeat("\n#endif", open)
}

// P7.15

func TestOneWayOrTheOther(t *testing.T) {
	d := newDice()
	programs, errors := 0, 0
	names := []string{"A", "B", "C"}
	for range 1500 {
		files := []api.File{{Name: "main", Text: someFile(d)}}
		within := pick(d, diagram.True(), someSet(d, features))
		l, e := source.Family(files, names, within)
		if e != api.OK {
			t.Fatalf("%q: %v", files, e)
		}
		x := syntax.Family(l, within)
		for c := range within.All(features) {
			own, _ := source.Plain(files, names, c)
			one, other := syntax.Plain(own, c), syntax.Project(x, c)
			if like, e := syntax.Like(one, other, diagram.True()); e != api.OK || !like.Full() {
				t.Fatalf("%q, %b: %s, want %s; %v", files, c, outcome(other), outcome(one), e)
			}
			sameCode := func(a, b syntax.Diag) bool { return a.Code == b.Code }
			if !slices.EqualFunc(one.Diags, other.Diags, sameCode) {
				t.Fatalf("%q, %b: %s, want %s", files, c, outcome(other), outcome(one))
			}
			programs += len(one.Kids)
			errors += len(one.Diags)
		}
	}
	if programs < 1000 || errors < 1000 {
		t.Error("too few programs, or errors:", programs, errors)
	}
}

// The source of the overview: a tree in which the configurations with B have another statement.
func TestOverview(t *testing.T) {
	files := []api.File{{Name: "main", Text: "fn main() {\n#ifdef B\nprint 1;\n#else\nprint 2 / read;\n#endif\n}"}}
	b := diagram.Cube(2, 0)
	l, _ := source.Family(files, []string{"A", "B", "C"}, diagram.True())
	x := syntax.Family(l, diagram.True())
	block, e := syntax.At(x, []int{0, 0, 0})
	if e != api.OK || len(block.Kids) != 2 || !block.Kids[0].Cond.Same(b) || !block.Kids[1].Cond.Same(b.Not()) ||
		block.Kids[0].Kind != api.Print || block.Kids[1].Kind != api.Print {
		t.Error("the Block:", shown(block), e)
	}
	if v, e := syntax.Variants(x); e != api.OK || len(v) != 1 || !slices.Equal(v[0].Path, []int{0, 0, 0}) {
		t.Error("the variants:", v, e)
	}
}

// Lists need not be canonical: tokens may have paths in any order, or empty conditions.
func TestAnyList(t *testing.T) {
	l := some(t, "var x : [a int ] [A bool ] ;")
	for k := range l.Tokens {
		l.Tokens[k].Path = []int{9 - k}
		l.Tokens[k].Line = k % 2
	}
	l.Tokens = slices.Insert(l.Tokens, 1, source.Token{Kind: api.TokSign, Text: "("}, l.Tokens[1])
	l.Tokens[2].Cond = diagram.False()
	l.Diags = []source.Diag{{Code: api.CodeError, Cond: diagram.True()}}
	if x := syntax.Family(l, diagram.True()); outcome(x) != "Program(0:Var x@3(0:TypeName int@5 0:TypeName bool@6))" {
		t.Error(outcome(x))
	}
	if x := syntax.Plain(l, 1); outcome(x) != "Program(0:Var x@3(0:TypeName int@5))" {
		t.Error(outcome(x))
	}
	if x := syntax.Family(source.List{}, diagram.Cube(1, 0)); outcome(x) != "Program" || !syntax.Whole(x).Same(diagram.Cube(1, 0)) {
		t.Error("no tokens:", outcome(x))
	}
}
