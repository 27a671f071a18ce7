package syntax

import (
	"motley/api"
	"motley/diagram"
)

// The goals. What may come at one of them is told by the method with its name.
const (
	declarations goal = iota
	varName
	fnName
	firstParam
	paramName
	moreParams
	params
	result
	typeName
	initial
	block
	statements
	stated
	condition
	otherwise
	alternative
	returned
	value
	group
	named
	firstArg
	moreArgs
	colon
	semicolon
	closing
	end
	goalCount
)

// grammar has the functions of the goals.
func (p *parser) grammar() [goalCount]doer {
	return [goalCount]doer{
		declarations: p.declarations,
		varName:      p.varName,
		fnName:       p.fnName,
		firstParam:   p.firstParam,
		paramName:    p.paramName,
		moreParams:   p.moreParams,
		params:       p.params,
		result:       p.result,
		typeName:     p.typeName,
		initial:      p.initial,
		block:        p.block,
		statements:   p.statements,
		stated:       p.stated,
		condition:    p.condition,
		otherwise:    p.otherwise,
		alternative:  p.alternative,
		returned:     p.returned,
		value:        p.value,
		group:        p.value,
		named:        p.named,
		firstArg:     p.firstArg,
		moreArgs:     p.moreArgs,
		colon:        p.sign(colonSign),
		semicolon:    p.sign(stopSign),
		closing:      p.sign(closeSign),
		end:          p.nothing,
	}
}

// sign is the goal of a sign alone.
func (p *parser) sign(text string) doer {
	return func(at place, d diagram.D) {
		if p.is(text) {
			p.leave(at, d, id{})
			return
		}
		p.refuse(d)
	}
}

// nothing is the goal behind everything.
func (p *parser) nothing(_ place, d diagram.D) {
	if p.token.isEnd {
		p.whole = p.whole.Or(d)
		return
	}
	p.refuse(d)
}

// declarations come in a Program.
func (p *parser) declarations(at place, d diagram.D) {
	switch p.token.text {
	case varWord:
		p.follow(at, d, at.of(at.node, varName, 0), at.part)
	case fnWord:
		p.follow(at, d, at.of(at.node, fnName, 0), at.part)
	default:
		p.nothing(at, d)
	}
}

// declared is a new node that has the name at the token, if there is one.
func (p *parser) declared(at place, d diagram.D, kind uint8) (id, bool) {
	if !p.isName() {
		p.refuse(d)
		return id{}, false
	}
	return p.kid(at, d, kind), true
}

func (p *parser) varName(at place, d diagram.D) {
	if n, is := p.declared(at, d, api.Var); is {
		p.follow(at, d, at.sign(colon), at.of(n, typeName, 0), at.of(n, initial, 1))
	}
}

func (p *parser) fnName(at place, d diagram.D) {
	if n, is := p.declared(at, d, api.Fn); is {
		p.follow(at, d, at.of(n, params, 0), at.of(n, result, 1), at.of(n, block, 2))
	}
}

func (p *parser) paramName(at place, d diagram.D) {
	if n, is := p.declared(at, d, api.Param); is {
		p.follow(at, d, at.sign(colon), at.of(n, typeName, 0))
	}
}

func (p *parser) params(at place, d diagram.D) {
	switch {
	case !p.is(openSign):
		p.refuse(d)
	case p.opens(at, d):
		p.follow(at, d, at.inner().of(at.node, firstParam, 0))
	}
}

func (p *parser) firstParam(at place, d diagram.D) {
	if p.is(closeSign) {
		p.leave(at, d, id{})
		return
	}
	p.begin(at, d, at.of(at.node, paramName, 0), at.of(at.node, moreParams, 0))
}

func (p *parser) moreParams(at place, d diagram.D) {
	switch p.token.text {
	case closeSign:
		p.leave(at, d, id{})
	case commaSign:
		p.follow(at, d, at.of(at.node, paramName, 0), at.part)
	default:
		p.refuse(d)
	}
}

func (p *parser) result(at place, d diagram.D) {
	if p.is(colonSign) {
		p.follow(at, d, at.of(at.node, typeName, at.slot))
		return
	}
	p.skip(at, d, id{})
}

func (p *parser) typeName(at place, d diagram.D) {
	if !isType(p.token.text) {
		p.refuse(d)
		return
	}
	p.kid(at, d, api.TypeName)
	p.leave(at, d, id{})
}

// initial comes behind the type of a Var.
func (p *parser) initial(at place, d diagram.D) {
	switch p.token.text {
	case assignSign:
		p.follow(at, d, at.of(at.node, value, at.slot), at.sign(semicolon))
	case stopSign:
		p.leave(at, d, id{})
	default:
		p.refuse(d)
	}
}

func (p *parser) block(at place, d diagram.D) {
	switch {
	case !p.is(beginSign):
		p.refuse(d)
	case p.opens(at, d):
		p.follow(at, d, at.inner().of(p.kid(at, d, api.Block), statements, 0))
	}
}

// statements come in a Block.
func (p *parser) statements(at place, d diagram.D) {
	switch p.token.text {
	case endSign:
		p.leave(at, d, id{})
	case beginSign:
		p.begin(at, d, at.of(at.node, block, 0), at.part)
	case varWord:
		p.follow(at, d, at.of(at.node, varName, 0), at.part)
	case ifWord:
		p.follow(at, d, append(at.ifParts(p.kid(at, d, api.If)), at.part)...)
	case whileWord:
		n := p.kid(at, d, api.While)
		p.follow(at, d, at.of(n, condition, 0), at.of(n, block, 1), at.part)
	case returnWord:
		p.follow(at, d, at.of(p.kid(at, d, api.Return), returned, 0), at.part)
	case printWord:
		n := p.kid(at, d, api.Print)
		p.follow(at, d, at.of(n, value, 0), at.sign(semicolon), at.part)
	case assertWord:
		n := p.kid(at, d, api.Assert)
		p.follow(at, d, at.of(n, value, 0), at.sign(semicolon), at.part)
	default:
		p.hold(at, d, stated)
	}
}

// hold goes on with a goal that decides what the name at the token is.
func (p *parser) hold(at place, d diagram.D, g goal) {
	if !p.isName() {
		p.refuse(d)
		return
	}
	next := p.push(at.depth, d, []part{at.of(at.node, g, at.slot), at.part})
	next.read = id{p.at, api.Name}
	p.behind.add(next, d)
}

// stated comes behind a name with which a statement begins.
func (p *parser) stated(at place, d diagram.D) {
	assign, call := id{at.read.tok, api.Assign}, id{at.read.tok, api.Call}
	switch {
	case p.is(assignSign):
		p.graph.link(at.node, at.slot, assign, d)
		p.follow(at, d, at.of(assign, value, 0), at.sign(semicolon))
	case !p.is(openSign):
		p.refuse(d)
	case p.opens(at, d):
		p.graph.link(at.node, at.slot, call, d)
		p.follow(at, d, at.inner().of(call, firstArg, 0), at.sign(semicolon))
	}
}

func (p *parser) condition(at place, d diagram.D) {
	switch {
	case !p.is(openSign):
		p.refuse(d)
	case p.opens(at, d):
		p.follow(at, d, at.inner().of(at.node, value, at.slot), at.inner().sign(closing))
	}
}

// ifParts are the parts of an If, behind its word.
func (c part) ifParts(n id) []part {
	return []part{c.of(n, condition, 0), c.of(n, block, 1), c.of(n, otherwise, 2)}
}

// otherwise comes behind the Block of an If.
func (p *parser) otherwise(at place, d diagram.D) {
	if p.is(elseWord) {
		p.follow(at, d, at.of(at.node, alternative, at.slot))
		return
	}
	p.skip(at, d, id{})
}

// alternative comes behind an else.
func (p *parser) alternative(at place, d diagram.D) {
	switch {
	case !p.is(ifWord):
		p.block(at, d)
	case p.opens(at, d):
		p.follow(at, d, at.inner().ifParts(p.kid(at, d, api.If))...)
	}
}

// returned comes behind a return.
func (p *parser) returned(at place, d diagram.D) {
	if p.is(stopSign) {
		p.leave(at, d, id{})
		return
	}
	p.begin(at, d, at.of(at.node, value, at.slot), at.sign(semicolon))
}
