package formula

import (
	"strings"

	"motley/api"
)

// wrongAt is what a parser panics with: the offset at which no formula can go on.
type wrongAt int

// Parse returns the formula of a text; or an error, and the offset at which it is.
func Parse(text string) (e api.Expr, at int, err api.Errno) {
	if len(text) > api.MaxFormula {
		return api.Expr{}, api.MaxFormula, api.ErrLimit
	}
	defer func() {
		if offset, is := recover().(wrongAt); is {
			e, at, err = api.Expr{}, int(offset), api.ErrForm
		}
	}()
	p := parser{text: text}
	e = p.whole()
	if !Valid(e) {
		return api.Expr{}, len(text), api.ErrLimit
	}
	return e, 0, api.OK
}

// parser reads a text token by token.
type parser struct {
	text  string
	at    int    // where the token begins
	token string // the one that comes next; empty at the end of the text
}

func (p *parser) whole() api.Expr {
	p.next()
	e := p.formula(choiceLevel)
	if p.at < len(p.text) {
		panic(wrongAt(p.at))
	}
	return e
}

// next goes on to the next token.
func (p *parser) next() {
	p.at += len(p.token)
	for p.at < len(p.text) && p.text[p.at] == ' ' {
		p.at++
	}
	p.token = firstToken(p.text[p.at:])
	if p.token == "" && p.at < len(p.text) {
		panic(wrongAt(p.at))
	}
}

// firstToken is the token with which a text begins; empty if there is none.
func firstToken(s string) string {
	if word := s[:wordLength(s)]; word == "0" || word == "1" || isName(word) {
		return word
	}
	for _, sign := range [...]string{"!", "&", "^", "|", "=>", "<=>", "?", ":", "(", ")"} {
		if strings.HasPrefix(s, sign) {
			return sign
		}
	}
	return ""
}

// accept goes past a token, if it comes next.
func (p *parser) accept(token string) bool {
	if p.token != token {
		return false
	}
	p.next()
	return true
}

func (p *parser) expect(token string) {
	if !p.accept(token) {
		panic(wrongAt(p.at))
	}
}

// formula reads a formula of a level. It calls itself for what stands inside of a formula, but not for each level in
// between: a text may have tens of thousands of ( in a row.
func (p *parser) formula(level int) api.Expr {
	e := p.least()
	for k := andLevel; k >= level; k-- {
		e = p.join(k, e)
	}
	return e
}

// join reads what follows the first operand of an operator of this level; if there is none, the operand is all.
func (p *parser) join(level int, first api.Expr) api.Expr {
	switch level {
	case andLevel:
		return p.row(api.OpAnd, first)
	case xorLevel:
		return p.row(api.OpXor, first)
	case orLevel:
		return p.row(api.OpOr, first)
	case impliesLevel:
		return p.two(api.OpImplies, first)
	case sameLevel:
		return p.two(api.OpSame, first)
	}
	if !p.accept("?") {
		return first
	}
	yes := p.formula(choiceLevel)
	p.expect(":")
	return node(api.OpChoice, first, yes, p.formula(choiceLevel))
}

// row reads the other operands that stand in one row with the first one.
func (p *parser) row(op uint8, first api.Expr) api.Expr {
	if p.token != sign(op, 1) {
		return first
	}
	kids := []api.Expr{first}
	for p.accept(sign(op, 1)) {
		kids = append(kids, p.formula(kidLevel(op, 1)))
	}
	return node(op, kids...)
}

// two reads the second operand of an operator that has two.
func (p *parser) two(op uint8, first api.Expr) api.Expr {
	if !p.accept(sign(op, 1)) {
		return first
	}
	return node(op, first, p.formula(kidLevel(op, 1)))
}

// least reads a formula of the innermost level.
func (p *parser) least() api.Expr {
	switch word := p.token; {
	case p.accept("!"):
		return node(api.OpNot, p.least())
	case p.accept("("):
		e := p.formula(choiceLevel)
		p.expect(")")
		return e
	case p.accept("0"):
		return node(api.OpFalse)
	case p.accept("1"):
		return node(api.OpTrue)
	case isName(word):
		p.next()
		return api.Expr{Op: api.OpName, Name: word}
	}
	panic(wrongAt(p.at))
}
