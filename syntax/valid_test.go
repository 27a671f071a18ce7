package syntax_test

import (
	"strings"
	"testing"

	"motley/api"
	"motley/diagram"
	"motley/syntax"
)

// P7.2: Valid.

// everything is a program that has all kinds of nodes, with some that are not there everywhere.
const everything = "var g : int = 1 ; [a fn h ( ) { } ] fn f ( p : int , q : bool ) : bool { var v : bool ; v = true ; " +
	"f ( 1 , read ) ; if ( v ) { } else { } if ( v ) { } else if ( v ) { } while ( v ) { print - 1 + 2 ; } return v ; " +
	"return ; assert [b ! ] f ( ) ; { } }"

// find is the first node of a kind.
func find(x *syntax.Tree, kind uint8) *syntax.Node {
	todo := []*syntax.Node{}
	for k := range x.Kids {
		todo = append(todo, &x.Kids[k])
	}
	for len(todo) > 0 {
		n := todo[0]
		todo = todo[1:]
		if n.Kind == kind {
			return n
		}
		for k := range n.Kids {
			todo = append(todo, &n.Kids[k])
		}
	}
	return nil
}

// leaf is a node without kids, which is there everywhere.
func leaf(kind uint8, text string, tok, slot int) syntax.Node {
	return syntax.Node{Kind: kind, Text: text, Tok: tok, Slot: slot, Cond: diagram.True()}
}

func TestValidTrees(t *testing.T) {
	for _, x := range []syntax.Tree{
		{},
		parsed(t, everything),
		{Kids: []syntax.Node{leaf(api.Program, "", -1, 0)}},
		{Diags: []syntax.Diag{{Code: api.CodeSize, Tok: 0, Cond: diagram.True()}}},
		{Diags: []syntax.Diag{
			{Code: api.CodeSyntax, Tok: 3, Cond: diagram.Cube(1, 0)}, {Code: api.CodeNest, Tok: 3, Cond: diagram.Cube(2, 1)},
			{Code: api.CodeSyntax, Tok: 4, Cond: diagram.Cube(4, 3)},
		}},
		{ // it need not be the tree of a list of tokens: Toks may have any order
			Kids: []syntax.Node{with(leaf(api.Program, "", -1, 0), 0, with(leaf(api.Var, "x", 0, 0), 0, leaf(api.TypeName, "int", 1<<40, 0)))},
		},
		{ // one token, but never in one configuration
			Kids: []syntax.Node{with(with(leaf(api.Program, "", -1, 0),
				0, restricted(with(leaf(api.Var, "x", 1, 0), 0, leaf(api.TypeName, "int", 2, 0)), diagram.Cube(1, 0))),
				0, restricted(with(leaf(api.Var, "y", 1, 0), 0, leaf(api.TypeName, "int", 2, 0)), diagram.Cube(0, 1)))},
		},
	} {
		if !syntax.Valid(x) {
			t.Errorf("%s is valid", outcome(x))
		}
	}
}

func restricted(n syntax.Node, d diagram.D) syntax.Node {
	return syntax.Restrict(syntax.Tree{Kids: []syntax.Node{n}}, d).Kids[0]
}

// Each change makes a tree that is valid one that is not.
func TestInvalidTrees(t *testing.T) {
	a, b := diagram.Cube(1, 0), diagram.Cube(2, 0)
	type change func(x *syntax.Tree)
	at := func(kind uint8, f func(n *syntax.Node)) change {
		return func(x *syntax.Tree) { f(find(x, kind)) }
	}
	text := func(kind uint8, text string) change {
		return at(kind, func(n *syntax.Node) { n.Text = text })
	}
	tok := func(kind uint8, tok int) change { return at(kind, func(n *syntax.Node) { n.Tok = tok }) }
	without := func(kind uint8, k int) change {
		return at(kind, func(n *syntax.Node) { n.Kids = append(n.Kids[:k:k], n.Kids[k+1:]...) })
	}
	more := func(kind uint8, slot int, kid syntax.Node) change {
		return at(kind, func(n *syntax.Node) {
			*n = syntax.Merge([]syntax.Tree{{Kids: []syntax.Node{with(*n, slot, kid)}}}).Kids[0]
		})
	}
	cond := func(kind uint8, d diagram.D) change { return at(kind, func(n *syntax.Node) { n.Cond = d }) }
	diags := func(l ...syntax.Diag) change {
		return func(x *syntax.Tree) {
			*x = syntax.Restrict(*x, a)
			x.Diags = l
		}
	}
	number, name := leaf(api.Number, "1", 900, 0), leaf(api.Name, "x", 900, 0)
	for what, f := range map[string]change{
		"two programs":      func(x *syntax.Tree) { x.Kids = append(x.Kids, x.Kids[0]) },
		"no Program":        func(x *syntax.Tree) { x.Kids = x.Kids[0].Kids[:1] },
		"slot of Program":   func(x *syntax.Tree) { x.Kids[0].Slot = 1 },
		"empty Program":     func(x *syntax.Tree) { x.Kids = []syntax.Node{{Kind: api.Program, Tok: -1}} },
		"text of Program":   text(api.Program, "x"),
		"tok of Program":    tok(api.Program, 0),
		"tok of a Var":      tok(api.Var, -1),
		"text of a Var":     text(api.Var, ""),
		"word as a name":    text(api.Fn, "while"),
		"number as a name":  text(api.Param, "1"),
		"two names":         text(api.Assign, "x y"),
		"long name":         text(api.Call, strings.Repeat("x", 33)),
		"comment":           text(api.Name, "x//"),
		"text of TypeName":  text(api.TypeName, "x"),
		"text of Block":     text(api.Block, "{"),
		"text of If":        text(api.If, "if"),
		"text of While":     text(api.While, "while"),
		"text of Return":    text(api.Return, "return"),
		"text of Print":     text(api.Print, "print"),
		"text of Assert":    text(api.Assert, "assert"),
		"text of Read":      text(api.Read, "read"),
		"text of Bool":      text(api.Bool, "read"),
		"no operator":       text(api.Binary, "!"),
		"no operator, too":  text(api.Binary, "="),
		"no unary operator": text(api.Unary, "+"),
		"no number":         text(api.Number, "x"),
		"number with 0":     text(api.Number, "01"),
		"great number":      text(api.Number, "2147483648"),
		"minus":             text(api.Number, "-1"),
		"unknown kind":      at(api.Read, func(n *syntax.Node) { n.Kind = 20 }),
		"greatest kind":     at(api.Read, func(n *syntax.Node) { n.Kind = 255 }),
		"no kind":           at(api.Read, func(n *syntax.Node) { n.Kind = 0 }),
		"slot below 0":      at(api.Read, func(n *syntax.Node) { n.Slot = -1 }),
		"slot 3":            at(api.Print, func(n *syntax.Node) { n.Kids[0].Slot = 3 }),
		"great slot":        at(api.Print, func(n *syntax.Node) { n.Kids[0].Slot = 1 << 40 }),
		"other slot":        at(api.Print, func(n *syntax.Node) { n.Kids[0].Slot = 1 }),
		"order of kids":     at(api.Binary, func(n *syntax.Node) { n.Kids[0], n.Kids[1] = n.Kids[1], n.Kids[0] }),
		"order of toks":     at(api.Program, func(n *syntax.Node) { n.Kids[0], n.Kids[1] = n.Kids[1], n.Kids[0] }),
		"equal kids":        at(api.Program, func(n *syntax.Node) { n.Kids[1] = n.Kids[0] }),
		"Var without type":  without(api.Var, 0),
		"Fn without Block":  without(api.Fn, 0),
		"Param without":     without(api.Param, 0),
		"If without test":   without(api.If, 0),
		"If without Block":  without(api.If, 1),
		"equal keys": at(api.Program, func(n *syntax.Node) {
			n.Kids = append([]syntax.Node{restricted(n.Kids[0], a), restricted(n.Kids[0], a.Not())}, n.Kids[1:]...)
		}),
		"While without":      without(api.While, 1),
		"While without test": without(api.While, 0),
		"two tests":          more(api.While, 0, name),
		"two types of a Fn": at(api.Program, func(n *syntax.Node) {
			f := &n.Kids[2]
			*f = syntax.Merge([]syntax.Tree{{Kids: []syntax.Node{with(*f, 1, leaf(api.TypeName, "int", 900, 0))}}}).Kids[0]
		}),
		"Assign without":            without(api.Assign, 0),
		"Print without":             without(api.Print, 0),
		"Assert without":            without(api.Assert, 0),
		"Unary without":             without(api.Unary, 0),
		"Binary without 0":          without(api.Binary, 0),
		"Binary without 1":          without(api.Binary, 1),
		"two types":                 more(api.Var, 0, leaf(api.TypeName, "int", 900, 0)),
		"two values":                more(api.Var, 1, number),
		"two conditions":            more(api.If, 0, name),
		"two else":                  more(api.If, 2, leaf(api.Block, "", 900, 0)),
		"two results":               more(api.Return, 0, with(leaf(api.Unary, "-", 901, 0), 0, name)),
		"value that is a type":      more(api.Return, 0, leaf(api.TypeName, "int", 900, 0)),
		"statement as an argument":  more(api.Call, 0, leaf(api.Block, "", 900, 0)),
		"expression as a statement": more(api.Block, 0, name),
		"Fn in a Block":             more(api.Block, 0, with(leaf(api.Fn, "x", 900, 0), 2, leaf(api.Block, "", 901, 0))),
		"statement in a Program":    more(api.Program, 0, leaf(api.Block, "", 900, 0)),
		"Param in a Program":        more(api.Program, 0, with(leaf(api.Param, "x", 900, 0), 0, leaf(api.TypeName, "int", 901, 0))),
		"kid of a Number":           more(api.Number, 0, name),
		"kid of a Name":             more(api.Name, 0, name),
		"kid of a Bool":             more(api.Bool, 0, name),
		"kid of a Read":             more(api.Read, 0, name),
		"kid of a TypeName":         more(api.TypeName, 0, name),
		"equal Toks":                at(api.Unary, func(n *syntax.Node) { n.Kids[0].Tok = 1 }),
		"empty condition":           cond(api.Param, diagram.False()),
		"greater condition":         cond(api.Program, a),
		"smaller condition":         cond(api.TypeName, a),
		"half an operand":           at(api.Binary, func(n *syntax.Node) { n.Kids[1].Cond = b }),
		"wide kid": at(api.Print, func(n *syntax.Node) {
			*n = restricted(*n, a)
			n.Kids[0].Cond = diagram.True()
		}),
		"code of a diagnostic": diags(syntax.Diag{Code: api.CodeError, Tok: 1, Cond: a.Not()}),
		"no code":              diags(syntax.Diag{Tok: 1, Cond: a.Not()}),
		"tok of a diagnostic":  diags(syntax.Diag{Code: api.CodeSyntax, Tok: -1, Cond: a.Not()}),
		"empty diagnostic":     diags(syntax.Diag{Code: api.CodeSyntax, Tok: 1}),
		"error with a program": diags(syntax.Diag{Code: api.CodeSyntax, Tok: 1, Cond: b}),
		"errors that meet":     diags(syntax.Diag{Code: api.CodeSyntax, Tok: 1, Cond: a.Not()}, syntax.Diag{Code: api.CodeSyntax, Tok: 2, Cond: b.And(a.Not())}),
		"order of diagnostics": diags(syntax.Diag{Code: api.CodeSyntax, Tok: 2, Cond: b.And(a.Not())}, syntax.Diag{Code: api.CodeSyntax, Tok: 1, Cond: diagram.Cube(0, 3)}),
		"order of codes":       diags(syntax.Diag{Code: api.CodeNest, Tok: 2, Cond: b.And(a.Not())}, syntax.Diag{Code: api.CodeSyntax, Tok: 2, Cond: diagram.Cube(0, 3)}),
		"equal diagnostics":    diags(syntax.Diag{Code: api.CodeNest, Tok: 2, Cond: b.And(a.Not())}, syntax.Diag{Code: api.CodeNest, Tok: 2, Cond: diagram.Cube(0, 3)}),
	} {
		x := parsed(t, everything)
		f(&x)
		if syntax.Valid(x) {
			t.Errorf("%s: %s is not valid", what, outcome(x))
		}
		if _, e := syntax.Print(x, 0); e != api.ErrArg {
			t.Errorf("%s: Print: %v", what, e)
		}
	}
}

// A tree may have MaxTokens levels.
func TestValidLevels(t *testing.T) {
	chain := func(levels int) syntax.Tree { // Program, Fn, Block, Return, and then operators
		n := leaf(api.Number, "1", 5, 0)
		for k := range levels - 5 {
			n = syntax.Node{Kind: api.Unary, Text: "-", Tok: 6 + k, Cond: diagram.True(), Kids: []syntax.Node{n}}
		}
		n = with(leaf(api.Block, "", 4, 0), 0, with(leaf(api.Return, "", 3, 0), 0, n))
		return syntax.Tree{Kids: []syntax.Node{with(leaf(api.Program, "", -1, 0), 0, with(leaf(api.Fn, "f", 1, 0), 2, n))}}
	}
	if x := chain(api.MaxTokens); !syntax.Valid(x) {
		t.Error("MaxTokens levels")
	}
	if x := chain(api.MaxTokens + 1); syntax.Valid(x) {
		t.Error("one level more")
	}
	x := chain(api.MaxTokens)
	if s, e := syntax.Print(x, 0); e != api.OK || strings.Count(s, "-") != api.MaxTokens-5 {
		t.Error("Print:", e)
	}
	if d, e := syntax.Like(x, x, diagram.True()); e != api.OK || !d.Full() {
		t.Error("Like:", e)
	}
	if l, e := syntax.Variants(x); e != api.OK || len(l) != 0 {
		t.Error("Variants:", e)
	}
}

// Most trees that are made by chance are not valid; no function panics.
func TestArbitraryTrees(t *testing.T) {
	var before syntax.Tree
	eachTree(2000, func(x syntax.Tree, d *dice) {
		valid := syntax.Valid(x)
		want := map[bool]api.Errno{true: api.OK, false: api.ErrArg}[valid]
		if _, e := syntax.Variants(x); e != want {
			t.Fatal("Variants:", outcome(x), e)
		}
		if _, e := syntax.Print(x, 0); !valid && e != want {
			t.Fatal("Print:", outcome(x), e)
		}
		if _, e := syntax.Like(x, before, diagram.True()); e != api.ErrArg && !(valid && syntax.Valid(before)) {
			t.Fatal("Like:", outcome(x), e)
		}
		before = x
	})
}
