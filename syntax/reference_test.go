package syntax_test

import (
	"slices"

	"motley/api"
	"motley/diagram"
	"motley/source"
	"motley/syntax"
)

// The reference is the chapter written out for one configuration, as directly as can be: a function for each line of
// the grammar, each of which looks at the next token alone.

// reference is the work on the tokens of a configuration.
type reference struct {
	tokens []source.Token
	toks   []int // their numbers
	end    int   // the number of the end
	pos    int
	open   int
}

// stop is the error of a configuration.
type stop struct {
	code api.Code
	tok  int
}

// refer is the tree of a configuration, with the condition True everywhere.
func refer(l source.List, c uint32) (t syntax.Tree) {
	r := &reference{end: len(l.Tokens)}
	for k, x := range l.Tokens {
		if x.Cond.Has(c) {
			r.tokens = append(r.tokens, x)
			r.toks = append(r.toks, k)
		}
	}
	defer func() {
		if s, is := recover().(stop); is {
			t = syntax.Tree{Diags: []syntax.Diag{{Code: s.code, Tok: s.tok, Cond: diagram.True()}}}
		}
	}()
	n := node(api.Program, "", -1)
	for r.tok() < r.end {
		n = with(n, 0, r.declaration())
	}
	return syntax.Tree{Kids: []syntax.Node{n}}
}

func node(kind uint8, text string, tok int) syntax.Node {
	return syntax.Node{Kind: kind, Text: text, Tok: tok, Cond: diagram.True()}
}

// with is a node with one more kid.
func with(n syntax.Node, slot int, kid syntax.Node) syntax.Node {
	kid.Slot = slot
	n.Kids = append(slices.Clone(n.Kids), kid)
	return n
}

// tok is the number of the next token.
func (r *reference) tok() int {
	if r.pos == len(r.tokens) {
		return r.end
	}
	return r.toks[r.pos]
}

// next is the text of the next token; empty at the end, and if it is not proper.
func (r *reference) next() string {
	if r.pos == len(r.tokens) {
		return ""
	}
	if r.pos == api.MaxTokens {
		panic(stop{api.CodeSize, r.tok()})
	}
	x := r.tokens[r.pos]
	l, e := source.Lex(x.Text)
	if e != api.OK || len(l) != 1 || l[0].Text != x.Text || l[0].Kind != x.Kind {
		return ""
	}
	return x.Text
}

func (r *reference) isName() bool {
	text := r.next()
	return text != "" && r.tokens[r.pos].Kind == api.TokName && !slices.Contains(grammarWords, text)
}

var grammarWords = []string{
	"var", "fn", "int", "bool", "if", "else", "while", "return", "print", "assert", "true", "false", "read",
}

func (r *reference) fail() { panic(stop{api.CodeSyntax, r.tok()}) }

// take takes the next token, which is one of some; it returns its text and its number.
func (r *reference) take(texts ...string) (string, int) {
	text, tok := r.next(), r.tok()
	if text == "" || !slices.Contains(texts, text) {
		r.fail()
	}
	r.pos++
	return text, tok
}

func (r *reference) name() (string, int) {
	if !r.isName() {
		r.fail()
	}
	return r.take(r.next())
}

// opening takes a token that opens a level.
func (r *reference) opening(text string) int {
	if r.next() == text && r.open == api.MaxNest {
		panic(stop{api.CodeNest, r.tok()})
	}
	_, tok := r.take(text)
	r.open++
	return tok
}

// closing takes a token that closes a level.
func (r *reference) closing(text string) {
	r.take(text)
	r.open--
}

func (r *reference) declaration() syntax.Node {
	if r.next() == "fn" {
		return r.function()
	}
	return r.variable()
}

func (r *reference) variable() syntax.Node {
	r.take("var")
	n := node(api.Var, "", 0)
	n.Text, n.Tok = r.name()
	r.take(":")
	n = with(n, 0, r.typeName())
	if r.next() == "=" {
		r.take("=")
		n = with(n, 1, r.expr())
	}
	r.take(";")
	return n
}

func (r *reference) typeName() syntax.Node {
	text, tok := r.take("int", "bool")
	return node(api.TypeName, text, tok)
}

func (r *reference) function() syntax.Node {
	r.take("fn")
	n := node(api.Fn, "", 0)
	n.Text, n.Tok = r.name()
	r.opening("(")
	for r.next() != ")" {
		if len(n.Kids) > 0 {
			r.take(",")
		}
		p := node(api.Param, "", 0)
		p.Text, p.Tok = r.name()
		r.take(":")
		n = with(n, 0, with(p, 0, r.typeName()))
	}
	r.closing(")")
	if r.next() == ":" {
		r.take(":")
		n = with(n, 1, r.typeName())
	}
	return with(n, 2, r.block())
}

func (r *reference) block() syntax.Node {
	n := node(api.Block, "", r.opening("{"))
	for r.next() != "}" {
		n = with(n, 0, r.statement())
	}
	r.closing("}")
	return n
}

func (r *reference) statement() syntax.Node {
	text, tok := r.next(), r.tok()
	switch text {
	case "var":
		return r.variable()
	case "if":
		return r.choice()
	case "while":
		r.take("while")
		n := node(api.While, "", tok)
		n = with(n, 0, r.condition())
		return with(n, 1, r.block())
	case "{":
		return r.block()
	case "return":
		r.take("return")
		n := node(api.Return, "", tok)
		if r.next() != ";" {
			n = with(n, 0, r.expr())
		}
		r.take(";")
		return n
	case "print", "assert":
		r.take(text)
		n := node(map[string]uint8{"print": api.Print, "assert": api.Assert}[text], "", tok)
		n = with(n, 0, r.expr())
		r.take(";")
		return n
	}
	text, tok = r.name()
	n := node(api.Assign, text, tok)
	if r.next() == "(" {
		n = r.call(text, tok)
	} else {
		r.take("=")
		n = with(n, 0, r.expr())
	}
	r.take(";")
	return n
}

func (r *reference) condition() syntax.Node {
	r.opening("(")
	n := r.expr()
	r.closing(")")
	return n
}

func (r *reference) choice() syntax.Node {
	_, tok := r.take("if")
	n := node(api.If, "", tok)
	n = with(n, 0, r.condition())
	n = with(n, 1, r.block())
	if r.next() != "else" {
		return n
	}
	r.take("else")
	if r.next() != "if" {
		return with(n, 2, r.block())
	}
	if r.open == api.MaxNest {
		panic(stop{api.CodeNest, r.tok()})
	}
	r.open++
	n = with(n, 2, r.choice())
	r.open--
	return n
}

func (r *reference) call(text string, tok int) syntax.Node {
	n := node(api.Call, text, tok)
	r.opening("(")
	for r.next() != ")" {
		if len(n.Kids) > 0 {
			r.take(",")
		}
		n = with(n, 0, r.expr())
	}
	r.closing(")")
	return n
}

func (r *reference) expr() syntax.Node { return r.left(r.and, "||") }

func (r *reference) and() syntax.Node { return r.left(r.cmp, "&&") }

func (r *reference) cmp() syntax.Node {
	n := r.sum()
	if slices.Contains([]string{"==", "!=", "<", "<=", ">", ">="}, r.next()) {
		text, tok := r.take(r.next())
		n = with(with(node(api.Binary, text, tok), 0, n), 1, r.sum())
	}
	return n
}

func (r *reference) sum() syntax.Node { return r.left(r.prod, "+", "-") }

func (r *reference) prod() syntax.Node { return r.left(r.unary, "*", "/", "%") }

// left is a row of operands with operators between them.
func (r *reference) left(operand func() syntax.Node, operators ...string) syntax.Node {
	n := operand()
	for slices.Contains(operators, r.next()) {
		text, tok := r.take(operators...)
		n = with(with(node(api.Binary, text, tok), 0, n), 1, operand())
	}
	return n
}

func (r *reference) unary() syntax.Node {
	text := r.next()
	if text != "!" && text != "-" {
		return r.least()
	}
	tok := r.opening(text)
	n := with(node(api.Unary, text, tok), 0, r.unary())
	r.open--
	return n
}

func (r *reference) least() syntax.Node {
	text, tok := r.next(), r.tok()
	switch {
	case text == "(":
		return r.condition()
	case text == "true" || text == "false":
		r.take(text)
		return node(api.Bool, text, tok)
	case text == "read":
		r.take(text)
		return node(api.Read, "", tok)
	case text != "" && r.tokens[r.pos].Kind == api.TokNumber:
		r.take(text)
		return node(api.Number, text, tok)
	}
	text, tok = r.name()
	if r.next() == "(" {
		return r.call(text, tok)
	}
	return node(api.Name, text, tok)
}
