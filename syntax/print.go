package syntax

import (
	"strings"

	"motley/api"
)

// Print returns the text of the program of a configuration.
func Print(t Tree, c uint32) (string, api.Errno) {
	if !Valid(t) {
		return "", api.ErrArg
	}
	kids := Project(t, c).Kids
	if len(kids) == 0 {
		return "", api.ErrNone
	}
	var text strings.Builder
	width := 0
	printer(func(words ...string) {
		for _, word := range words {
			text.WriteString(word)
			width++
			if width == api.MaxWidth || word == stopSign || word == beginSign || word == endSign {
				text.WriteByte('\n')
				width = 0
				continue
			}
			text.WriteByte(' ')
		}
	}).nodes(kids)
	return text.String(), api.OK
}

// printer writes tokens.
type printer func(tokens ...string)

// in are the kids in a slot.
func (n Node) in(slot int) []Node {
	var l []Node
	for _, kid := range n.Kids {
		if kid.Slot == slot {
			l = append(l, kid)
		}
	}
	return l
}

// nodes writes nodes that are not expressions, one after the other.
func (p printer) nodes(l []Node) {
	for _, n := range l {
		p.node(n)
	}
}

func (p printer) node(n Node) {
	switch n.Kind {
	case api.Program:
		p.nodes(n.Kids)
	case api.Var:
		p(varWord, n.Text, colonSign)
		p.nodes(n.in(0))
		p.behind(assignSign, n.in(1))
		p(stopSign)
	case api.Fn:
		p.function(n)
	case api.TypeName:
		p(n.Text)
	case api.Block:
		p(beginSign)
		p.nodes(n.Kids)
		p(endSign)
	case api.Assign:
		p(n.Text)
		p.behind(assignSign, n.in(0))
		p(stopSign)
	case api.Call:
		p.expression(n)
		p(stopSign)
	case api.If:
		p.choice(n)
	case api.While:
		p(whileWord)
		p.condition(n)
	case api.Return:
		p(returnWord)
		p.expressions(n.Kids)
		p(stopSign)
	case api.Print:
		p(printWord)
		p.expressions(n.Kids)
		p(stopSign)
	case api.Assert:
		p(assertWord)
		p.expressions(n.Kids)
		p(stopSign)
	}
}

// behind writes an expression behind a sign, if there is one.
func (p printer) behind(sign string, l []Node) {
	if len(l) > 0 {
		p(sign)
		p.expressions(l)
	}
}

func (p printer) function(n Node) {
	p(fnWord, n.Text, openSign)
	for k, param := range n.in(0) {
		if k > 0 {
			p(commaSign)
		}
		p(param.Text, colonSign)
		p.nodes(param.Kids)
	}
	p(closeSign)
	for _, result := range n.in(1) {
		p(colonSign, result.Text)
	}
	p.nodes(n.in(2))
}

func (p printer) choice(n Node) {
	p(ifWord)
	p.condition(n)
	if rest := n.in(2); len(rest) > 0 {
		p(elseWord)
		p.nodes(rest)
	}
}

// condition writes what an If and a While have in common.
func (p printer) condition(n Node) {
	p(openSign)
	p.expressions(n.in(0))
	p(closeSign)
	p.nodes(n.in(1))
}

// expressions writes expressions with commas between them.
func (p printer) expressions(l []Node) {
	for k, n := range l {
		if k > 0 {
			p(commaSign)
		}
		p.expression(n)
	}
}

func (p printer) expression(n Node) {
	switch n.Kind {
	case api.Binary:
		p.operand(n, n.Kids[0])
		p(n.Text)
		p.operand(n, n.Kids[1])
	case api.Unary:
		p(n.Text)
		p.operand(n, n.Kids[0])
	case api.Call:
		p(n.Text, openSign)
		p.expressions(n.Kids)
		p(closeSign)
	case api.Read:
		p(readWord)
	default:
		p(n.Text)
	}
}

// operand writes the operand of an operator, between ( and ) if it would not be read as its operand without them.
func (p printer) operand(n, kid Node) {
	if kid.Kind == api.Binary && !n.takes(kid) {
		p(openSign)
		p.expression(kid)
		p(closeSign)
		return
	}
	p.expression(kid)
}

// takes reports whether an operator has a Binary as its operand that stands beside it without ( and ) .
func (n Node) takes(kid Node) bool {
	if n.Kind == api.Unary {
		return false
	}
	level, inner := binaryLevel(n.Text), binaryLevel(kid.Text)
	return inner > level || inner == level && kid.Slot == 0 && level != compareLevel
}
