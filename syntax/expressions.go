package syntax

import (
	"motley/api"
	"motley/diagram"
)

// value is an expression for a slot of a node; or, as a group, one that is followed by a ) . Operators that wait for
// their operands are nodes whose values are to come.
func (p *parser) value(at place, d diagram.D) {
	if at.read == (id{}) {
		p.operand(at, d)
		return
	}
	p.operator(at, d)
}

// operand comes where nothing of a value was read.
func (p *parser) operand(at place, d diagram.D) {
	text := p.token.text
	switch {
	case p.token.kind == api.TokNumber:
		p.leaf(at, d, api.Number)
	case isBool(text):
		p.leaf(at, d, api.Bool)
	case text == readWord:
		p.leaf(at, d, api.Read)
	case text != openSign && !isUnary(text):
		p.hold(at, d, named)
	case !p.opens(at, d):
	case text == openSign:
		p.follow(at, d, at.inner().of(id{}, group, 0), at.part)
	default:
		p.follow(at, d, at.inner().of(id{p.at, api.Unary}, value, 0), at.part)
	}
}

// leaf is an operand that is the token alone.
func (p *parser) leaf(at place, d diagram.D, kind uint8) {
	at.read = id{p.at, kind}
	p.behind.add(at, d)
}

// named comes behind a name that is an operand, or with which one begins.
func (p *parser) named(at place, d diagram.D) {
	switch {
	case !p.is(openSign):
		p.skip(at, d, at.read)
	case p.opens(at, d):
		p.follow(at, d, at.inner().of(id{at.read.tok, api.Call}, firstArg, 0))
	}
}

func (p *parser) firstArg(at place, d diagram.D) {
	if p.is(closeSign) {
		p.leave(at, d, at.node)
		return
	}
	p.begin(at, d, at.of(at.node, value, 0), at.of(at.node, moreArgs, 0))
}

func (p *parser) moreArgs(at place, d diagram.D) {
	switch p.token.text {
	case closeSign:
		p.leave(at, d, at.node)
	case commaSign:
		p.follow(at, d, at.of(at.node, value, 0), at.part)
	default:
		p.refuse(d)
	}
}

// operator comes behind an operand. One that binds more tightly than what waits for the operand takes it; otherwise
// that has it, and has ended itself.
func (p *parser) operator(at place, d diagram.D) {
	level, waiting := binaryLevel(p.token.text), p.levelOf(at.node)
	switch {
	case level > waiting:
		n := id{p.at, api.Binary}
		p.graph.link(n, 0, at.read, d)
		p.follow(at, d, at.of(n, value, 1), at.part)
	case level == compareLevel && waiting == compareLevel: // there is only one comparison between two sums
		p.refuse(d)
	case at.goal == group && p.is(closeSign):
		p.leave(at, d, at.read)
	case at.goal == group:
		p.refuse(d)
	default:
		p.graph.link(at.node, at.slot, at.read, d)
		p.skip(at, d, at.node.operand())
	}
}

// operand is the node, if it is an operator with its operands; that is an operand itself.
func (n id) operand() id {
	if n.kind == api.Binary || n.kind == api.Unary {
		return n
	}
	return id{}
}

// levelOf is the level of a node that is an operator; otherwise noLevel.
func (p *parser) levelOf(n id) int {
	switch n.kind {
	case api.Binary:
		return binaryLevel(p.tokens[n.tok].Text)
	case api.Unary:
		return unaryLevel
	}
	return noLevel
}
