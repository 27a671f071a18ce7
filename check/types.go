package check

import (
	"motley/api"
	"motley/diagram"
	"motley/syntax"
)

// The words of the language that are looked at.
const (
	boolWord = "bool"
	trueWord = "true"
)

// typing tells where something is of which type. Where it is of the type 0, it is of none.
type typing [api.TypeBool + 1]diagram.D

// typed is a type in some configurations.
func typed(kind uint8, d diagram.D) typing {
	var t typing
	t[kind] = d
	return t
}

// written is the type that is written in a slot.
func written(n *syntax.Node, slot int) typing {
	var t typing
	for name := range kids(n, slot) {
		kind := api.TypeInt
		if name.Text == boolWord {
			kind = api.TypeBool
		}
		t[kind] = t[kind].Or(name.Cond)
	}
	return t
}

// within is the part of it that is in some configurations.
func (t typing) within(d diagram.D) typing {
	for kind := range t {
		t[kind] = meet(t[kind], d)
	}
	return t
}

func (t typing) or(o typing) typing {
	for kind := range t {
		t[kind] = t[kind].Or(o[kind])
	}
	return t
}

// any is where it has a type.
func (t typing) any() diagram.D { return t[api.TypeInt].Or(t[api.TypeBool]) }

// against is where both have a type, but not the same one.
func (t typing) against(o typing) diagram.D {
	return meet(t[api.TypeInt], o[api.TypeBool]).Or(meet(t[api.TypeBool], o[api.TypeInt]))
}

// operator is what tells operators apart: - is one with two operands, and one with one.
type operator struct {
	kind uint8
	text string
}

// demand is the type of what an operator gives, and that which it requires of its operands. If that is 0, the second
// one is to be as the first one.
type demand struct{ result, operands uint8 }

func operators() map[operator]demand {
	const number, truth = api.TypeInt, api.TypeBool
	return map[operator]demand{
		{api.Binary, "+"}:  {number, number},
		{api.Binary, "-"}:  {number, number},
		{api.Binary, "*"}:  {number, number},
		{api.Binary, "/"}:  {number, number},
		{api.Binary, "%"}:  {number, number},
		{api.Binary, "<"}:  {truth, number},
		{api.Binary, "<="}: {truth, number},
		{api.Binary, ">"}:  {truth, number},
		{api.Binary, ">="}: {truth, number},
		{api.Binary, "=="}: {truth, 0},
		{api.Binary, "!="}: {truth, 0},
		{api.Binary, "&&"}: {truth, truth},
		{api.Binary, "||"}: {truth, truth},
		{api.Unary, "-"}:   {number, number},
		{api.Unary, "!"}:   {truth, truth},
	}
}

// expression examines an expression, and returns its type.
func (c *checker) expression(n *syntax.Node, at place) typing {
	t := c.typeOf(n, at)
	c.add(api.FactType, n.Tok, int(api.TypeInt), t[api.TypeInt])
	c.add(api.FactType, n.Tok, int(api.TypeBool), t[api.TypeBool])
	return t
}

// values examines the expressions in a slot, of which a type is required, and returns their types.
func (c *checker) values(n *syntax.Node, slot int, want typing, at place) typing {
	var all typing
	for kid := range kids(n, slot) {
		t := c.expression(kid, at)
		c.require(kid, t, want)
		all = all.or(t)
	}
	return all
}

func (c *checker) require(n *syntax.Node, t, want typing) {
	c.fail(api.CodeType, n.Tok, t.against(want))
}

func (c *checker) typeOf(n *syntax.Node, at place) typing {
	switch n.Kind {
	case api.Number:
		return typed(api.TypeInt, n.Cond)
	case api.Bool:
		return typed(api.TypeBool, n.Cond)
	case api.Name:
		return c.named(n, at)
	case api.Read, api.Call:
		if at.fn == nil {
			c.fail(api.CodeConst, n.Tok, n.Cond)
			return typing{}
		}
		if n.Kind == api.Read {
			return typed(api.TypeInt, n.Cond)
		}
		return c.result(n, at)
	}
	return c.operation(n, at)
}

// named is the type of a Name.
func (c *checker) named(n *syntax.Node, at place) typing {
	var t typing
	for _, f := range c.use(n, at) {
		if f.node.Kind != api.Fn {
			t = t.or(f.within(f.cond))
		}
	}
	return t
}

// operation is the type of a Binary or a Unary.
func (c *checker) operation(n *syntax.Node, at place) typing {
	d := c.operators[operator{n.Kind, n.Text}]
	want := typed(d.operands, n.Cond)
	first := c.values(n, 0, want, at)
	if d.operands == 0 {
		want = first
	}
	c.values(n, 1, want, at)
	return typed(d.result, n.Cond)
}

// result is the type of a Call that is an expression.
func (c *checker) result(n *syntax.Node, at place) typing {
	var t typing
	for _, f := range c.call(n, at) {
		have := f.within(f.cond)
		c.fail(api.CodeType, n.Tok, without(f.cond, have.any()))
		t = t.or(have)
	}
	return t
}

// call examines a Call, and returns the Fns that are called.
func (c *checker) call(n *syntax.Node, at place) []found {
	var fns []found
	for _, f := range c.use(n, at) {
		if f.node.Kind == api.Fn {
			fns = append(fns, f)
			c.calls.add(pair{at.fn.node.Tok, f.node.Tok}, f.cond)
		}
	}
	given := shares[int]{0: n.Cond}
	for arg := range kids(n, 0) {
		t := c.expression(arg, at)
		for k, d := range given {
			c.argument(arg, t.within(d), fns, k)
		}
		given = counted(given, arg.Cond)
	}
	for _, f := range fns {
		for k, d := range given {
			c.fail(api.CodeArgs, n.Tok, without(meet(d, f.cond), f.arity[k]))
		}
	}
	return fns
}

// argument requires the type of the Param with a number.
func (c *checker) argument(n *syntax.Node, t typing, fns []found, number int) {
	for _, f := range fns {
		if number < len(f.params) {
			c.require(n, t, f.params[number].within(f.cond))
		}
	}
}
