package check

import (
	"motley/api"
	"motley/diagram"
	"motley/syntax"
)

const mainName = "main"

// pair has the tokens of a Fn, and of one that it calls.
type pair struct{ from, to int }

// checker examines the program of a tree, in all configurations at once: what it says of a node, it says of some of
// those that have the node.
type checker struct {
	facts shares[key]
	calls shares[pair]

	globals scope
	decls   []*decl                  // all of them
	of      map[*syntax.Node]*decl   // by their nodes
	uses    map[*syntax.Node][]found // what the names in them mean

	statements [api.Call + 1]examiner
	operators  map[operator]demand
}

// examiner examines a statement.
type examiner func(*checker, *syntax.Node, place)

// examined is a checker that has examined the names and the types of a tree.
func examined(t syntax.Tree) *checker {
	c := &checker{facts: shares[key]{}, calls: shares[pair]{}, globals: scope{table: table{}},
		of: map[*syntax.Node]*decl{}, uses: map[*syntax.Node][]found{}, operators: operators()}
	c.statements = [...]examiner{
		api.Var:    (*checker).variable,
		api.Block:  (*checker).block,
		api.Assign: (*checker).assign,
		api.If:     (*checker).control,
		api.While:  (*checker).control,
		api.Return: (*checker).returned,
		api.Print:  (*checker).print,
		api.Assert: (*checker).condition,
		api.Call:   (*checker).called,
	}
	for k := range t.Kids {
		c.program(&t.Kids[k])
	}
	return c
}

// add says that there is a fact in some configurations.
func (c *checker) add(kind uint8, tok, other int, d diagram.D) { c.facts.add(key{tok, kind, other}, d) }

// fail says that there is an error in some configurations.
func (c *checker) fail(code api.Code, tok int, d diagram.D) {
	c.add(api.FactError, tok, int(code), d)
}

// declare takes a declaration into a table.
func (c *checker) declare(d *decl, t table) {
	c.fail(api.CodeTwice, d.node.Tok, t.declare(d))
	c.decls = append(c.decls, d)
	c.of[d.node] = d
}

// use finds what a name means.
func (c *checker) use(n *syntax.Node, at place) []found {
	l, none := at.find(n.Text, n.Cond)
	for _, f := range l {
		c.add(api.FactUse, n.Tok, f.node.Tok, f.cond)
		if (f.node.Kind == api.Fn) != (n.Kind == api.Call) {
			c.fail(api.CodeKind, n.Tok, f.cond)
		}
	}
	c.fail(api.CodeUnknown, n.Tok, none)
	c.uses[n] = l
	return l
}

func (c *checker) program(n *syntax.Node) {
	for kid := range kids(n, 0) {
		d := declared(kid)
		d.global = true
		c.declare(d, c.globals.table)
	}
	c.fail(api.CodeMain, n.Tok, without(n.Cond, c.start()))
	before := &scope{table: table{}} // the global Vars that a global Var sees
	for kid := range kids(n, 0) {
		d := c.of[kid]
		if kid.Kind == api.Fn {
			c.function(d)
			continue
		}
		c.values(kid, 1, d.typing, place{scope: before})
		before.put(d)
	}
}

// start is where there is a main as it must be.
func (c *checker) start() diagram.D {
	start := diagram.False()
	for _, d := range c.globals.table[mainName] {
		if d.node.Kind == api.Fn {
			start = start.Or(without(meet(d.counts, d.arity[0]), d.any()))
		}
	}
	return start
}

func (c *checker) function(d *decl) {
	at := place{&scope{table{}, &c.globals}, d}
	for p := range kids(d.node, 0) {
		c.declare(declared(p), at.table)
	}
	for body := range kids(d.node, 2) {
		c.all(body, at)
	}
}

// all examines the statements of a Block.
func (c *checker) all(n *syntax.Node, at place) {
	for kid := range kids(n, 0) {
		c.statement(kid, at)
	}
}

func (c *checker) statement(n *syntax.Node, at place) { c.statements[n.Kind](c, n, at) }

func (c *checker) block(n *syntax.Node, at place) { c.all(n, at.inner()) }

func (c *checker) variable(n *syntax.Node, at place) {
	d := declared(n)
	c.values(n, 1, d.typing, at)
	c.declare(d, at.table)
}

func (c *checker) assign(n *syntax.Node, at place) { c.values(n, 0, c.named(n, at), at) }

// control examines an If or a While.
func (c *checker) control(n *syntax.Node, at place) {
	c.condition(n, at)
	for slot := 1; slot <= 2; slot++ {
		for kid := range kids(n, slot) {
			c.statement(kid, at)
		}
	}
}

func (c *checker) returned(n *syntax.Node, at place) {
	c.values(n, 0, at.fn.typing, at)
	c.fail(api.CodeReturn, n.Tok, meet(n.Cond, filled(n, 0).Xor(at.fn.any())))
}

func (c *checker) print(n *syntax.Node, at place) { c.values(n, 0, typing{}, at) }

// condition examines an Assert, or what comes first in an If or a While.
func (c *checker) condition(n *syntax.Node, at place) {
	c.values(n, 0, typed(api.TypeBool, n.Cond), at)
}

func (c *checker) called(n *syntax.Node, at place) { c.call(n, at) }
