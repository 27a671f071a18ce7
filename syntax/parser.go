package syntax

import (
	"motley/api"
	"motley/diagram"
	"motley/source"
)

// parser reads tokens from the left to the right, in all configurations at once. Configurations that are at the same
// place go on together, however they came there. What they do not have in common is kept with conditions: the parts
// that are to come later, and the nodes with their kids.
type parser struct {
	tokens  []source.Token
	kinds   map[string]uint8 // by the texts that were met
	doers   [goalCount]doer
	surplus shares[int] // where which token is one too many

	at     int // the number of the token that is read
	token  token
	now    []shares[place] // where those are that have not read it yet, by depth
	behind shares[place]   // where the others are
	later  []shares[part]  // by depth

	graph  graph
	faults shares[fault]
	alive  diagram.D // where there is no error so far
	whole  diagram.D // where the tokens are all that was to come
}

// token is the token that is read. Its kind and its text are empty if it fits nowhere.
type token struct {
	kind  uint8
	text  string
	isEnd bool
}

// goal tells what may come.
type goal uint8

// doer reads the token at a place where some configurations are: it moves each of them to another place, or says that
// it has an error.
type doer func(at place, d diagram.D)

// part is something that is to come. What it is goes into a slot of a node.
type part struct {
	goal goal
	node id
	slot int
	nest int // how many levels are open before it
}

// of is a part of a node, with the same levels.
func (c part) of(node id, g goal, slot int) part { return part{g, node, slot, c.nest} }

// sign is a part that is a sign alone.
func (c part) sign(g goal) part { return part{goal: g, nest: c.nest} }

// inner is the same part within one more level.
func (c part) inner() part {
	c.nest++
	return c
}

// place is how many parts are to come later; the one that comes next; and what was read of it: an operand, behind
// which there may be an operator, or a name, of which it is not known yet what it is.
type place struct {
	depth int
	part
	read id
}

func newParser(tokens []source.Token, within diagram.D) *parser {
	p := &parser{tokens: tokens, kinds: map[string]uint8{}, surplus: surplus(tokens, within),
		behind: shares[place]{}, graph: graph{}, faults: shares[fault]{}, alive: within}
	p.doers = p.grammar()
	return p
}

// parse reads all tokens, and what is behind them, as some parts.
func (p *parser) parse(parts ...part) {
	p.behind.add(p.push(0, p.alive, parts), p.alive)
	for i, t := range p.tokens {
		p.at, p.token = i, p.proper(t)
		p.step(t.Cond)
	}
	p.at, p.token = len(p.tokens), token{isEnd: true}
	p.step(p.alive)
}

// proper is a token, if it is proper.
func (p *parser) proper(t source.Token) token {
	kind, known := p.kinds[t.Text]
	if !known {
		kind = kindOf(t.Text)
		p.kinds[t.Text] = kind
	}
	if kind == 0 || kind != t.Kind {
		return token{}
	}
	return token{kind: kind, text: t.Text}
}

// step reads the token in the configurations that have it. What is deep comes first: so configurations that come from
// there to a place nearer to the top, without having read the token, go on with those that are there.
func (p *parser) step(d diagram.D) {
	before := p.behind
	p.behind = shares[place]{}
	for at, have := range before {
		here := meet(have, d)
		surplus := meet(here, p.surplus[p.at])
		p.fail(api.CodeSize, surplus)
		p.wait(at, without(here, surplus))
		p.behind.add(at, without(have, d))
	}
	for depth := len(p.now) - 1; depth >= 0; depth-- {
		for at, d := range p.now[depth] {
			p.do(at, d)
		}
		clear(p.now[depth])
	}
}

// do reads the token at a place.
func (p *parser) do(at place, d diagram.D) { p.doers[at.goal](at, d) }

// wait lets configurations read the token at a place when it is its turn.
func (p *parser) wait(at place, d diagram.D) {
	for len(p.now) <= at.depth {
		p.now = append(p.now, shares[place]{})
	}
	p.now[at.depth].add(at, d)
}

// follow goes on, behind the token, with some parts in place of the one that came next.
func (p *parser) follow(at place, d diagram.D, parts ...part) {
	p.behind.add(p.push(at.depth, d, parts), d)
}

// begin goes on with some parts in place of the one that came next, but the token is still to be read.
func (p *parser) begin(at place, d diagram.D, parts ...part) { p.do(p.push(at.depth, d, parts), d) }

// push lays all parts but the first one down, in such a way that they come in their order. It returns the place where
// the first one comes next.
func (p *parser) push(depth int, d diagram.D, parts []part) place {
	for k := len(parts) - 1; k > 0; k-- {
		for len(p.later) <= depth {
			p.later = append(p.later, shares[part]{})
		}
		p.later[depth].add(parts[k], d)
		depth++
	}
	return place{depth: depth, part: parts[0]}
}

// leave goes on, behind the token, with what is to come later. Read is the operand that has ended, if there is one.
func (p *parser) leave(at place, d diagram.D, read id) { p.pop(at, d, read, p.behind.add) }

// skip goes on with what is to come later, but the token is still to be read.
func (p *parser) skip(at place, d diagram.D, read id) { p.pop(at, d, read, p.wait) }

func (p *parser) pop(at place, d diagram.D, read id, move func(place, diagram.D)) {
	depth := at.depth - 1
	for c, share := range p.later[depth].take(d) {
		move(place{depth, c, read}, share)
	}
}

// fault is what tells diagnostics apart.
type fault struct {
	tok  int
	code api.Code
}

// fail says that the token is an error of some configurations. They go nowhere.
func (p *parser) fail(code api.Code, d diagram.D) {
	p.faults.add(fault{p.at, code}, d)
	p.alive = without(p.alive, d)
}

func (p *parser) refuse(d diagram.D) { p.fail(api.CodeSyntax, d) }

// opens reports whether the token, which opens a level, may do so.
func (p *parser) opens(at place, d diagram.D) bool {
	if at.nest < api.MaxNest {
		return true
	}
	p.fail(api.CodeNest, d)
	return false
}

func (p *parser) is(text string) bool { return p.token.text == text }

func (p *parser) isName() bool { return p.token.kind == api.TokName && !isWord(p.token.text) }

// kid is a new node at the token: a kid of the node to which the part at a place belongs.
func (p *parser) kid(at place, d diagram.D, kind uint8) id {
	n := id{p.at, kind}
	p.graph.link(at.node, at.slot, n, d)
	return n
}

// text is the text of a node.
func (p *parser) text(n id) string {
	if shapes[n.kind].text == noText {
		return ""
	}
	return p.tokens[n.tok].Text
}

// tree is what was parsed.
func (p *parser) tree() Tree { return Tree{p.graph.nodes(p.whole, p.text), diagnostics(p.faults)} }
