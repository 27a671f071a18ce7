package source

import (
	"slices"

	"motley/api"
	"motley/diagram"
)

// expansion is the work on one line.
type expansion struct {
	table table
	place
	tally
	diags []Diag
}

// expand adds the tokens of a line, expanded in some configurations, to others. It also returns those of the
// configurations in which this does not take too many steps.
func (v *visit) expand(before []Token, line []token, d diagram.D) ([]Token, diagram.D) {
	x := &expansion{table: v.table, place: v.place, tally: newTally(d)}
	all := x.line(before, line, d)
	if x.lost {
		v.report(api.CodeLong, without(d, x.left))
		keep := func(cond diagram.D) diagram.D { return cond.And(x.left) }
		all = append(all[:len(before):len(before)], changeAll(all[len(before):], keep)...)
		x.diags = changeAll(x.diags, keep)
	}
	v.found.Diags = append(v.found.Diags, x.diags...)
	return all, x.left
}

// line expands the line itself. If it is too long everywhere, nothing is added.
func (x *expansion) line(before []Token, line []token, d diagram.D) (all []Token) {
	defer func() {
		if _, long := recover().(tooLong); long {
			all = before[:len(before):len(before)]
		}
	}()
	return x.expand(before, sequence{x.path, line}, scope{}, d)
}

// sequence is what is expanded: tokens, and what stands in their paths before their indices.
type sequence struct {
	path   []int
	tokens []token
}

// scope is where a sequence is expanded.
type scope struct {
	depth  int
	hidden []string
	args   map[string][]Token // by the parameters
}

// walk is the way through a sequence.
type walk struct {
	*expansion
	sequence
	scope
	reached []diagram.D // of each token, and of the end: where it is reached
	out     []Token
}

// expand adds the tokens of a sequence, expanded in some configurations.
func (x *expansion) expand(before []Token, s sequence, in scope, d diagram.D) []Token {
	w := &walk{x, s, in, make([]diagram.D, len(s.tokens)+1), before}
	w.reach(0, d)
	for i := range s.tokens {
		if here := w.step(w.reached[i]); !here.Empty() {
			w.token(i, here)
		}
	}
	return w.out
}

// reach says that a token is reached in more configurations.
func (w *walk) reach(i int, d diagram.D) { w.reached[i] = w.reached[i].Or(d) }

// token expands a token where it is reached.
func (w *walk) token(i int, here diagram.D) {
	t := w.tokens[i]
	path := join(w.path, t.index)
	if arg, is := w.args[t.text]; is {
		w.give(arg, path, here)
		w.reach(i+1, here)
		return
	}
	c, uses, rest := call{}, []use(nil), here
	if seen := w.seen(t.text); len(seen) > 0 {
		c = w.callAt(i + 1)
		uses, rest = w.uses(seen, c, path, here)
	}
	w.stay(t, path, rest)
	w.reach(i+1, rest)
	if len(uses) > 0 {
		w.expandUses(i, path, uses, c)
	}
}

// seen are the macros with a name, unless it is hidden.
func (w *walk) seen(name string) []entry {
	if slices.Contains(w.hidden, name) {
		return nil
	}
	return w.table[name]
}

// give adds the tokens of an argument, at the path of its parameter.
func (w *walk) give(arg []Token, path []int, here diagram.D) {
	for _, t := range arg {
		if t.Cond = w.step(meet(here, t.Cond)); !t.Cond.Empty() {
			t.Path = join(path, t.Path...)
			w.out = append(w.out, t)
		}
	}
}

// stay adds a token as it is.
func (w *walk) stay(t token, path []int, d diagram.D) {
	if t.asked == "" {
		w.add(t.kind, t.text, path, d)
		return
	}
	has := w.table.has(t.asked)
	w.add(t.kind, "0", path, without(d, has))
	w.add(t.kind, "1", path, d.And(has))
}

func (w *walk) add(kind uint8, text string, path []int, d diagram.D) {
	if !d.Empty() {
		w.out = append(w.out, Token{kind, text, path, w.file, w.number, d})
	}
}

// use is a macro that is expanded in some configurations.
type use struct {
	*macro
	cond diagram.D
}

// uses returns which of the macros that are seen are expanded for a name at a path, and where none is.
func (w *walk) uses(seen []entry, c call, path []int, here diagram.D) (l []use, rest diagram.D) {
	rest = here
	for _, e := range seen {
		d := meet(here, e.cond)
		switch {
		case d.Empty() || e.call && !c.begun:
		case w.depth == api.MaxDepth:
			w.diags = append(w.diags, w.diag(api.CodeDeep, path, d))
		case e.call && !c.fits(len(e.params)):
			w.diags = append(w.diags, w.diag(api.CodeCall, path, d))
		default:
			l = append(l, use{e.macro, d})
			rest = without(rest, d)
		}
	}
	return l, rest
}

// expandUses adds the bodies of macros that are expanded for a token.
func (w *walk) expandUses(i int, path []int, uses []use, c call) {
	args := w.arguments(uses, c)
	before, most := w.mark(), 0
	for _, u := range uses {
		w.resume(before)
		in := scope{depth: w.depth + 1, hidden: append(w.hidden[:len(w.hidden):len(w.hidden)], u.name)}
		next := i + 1
		if u.call {
			next = c.next
			in.args = map[string][]Token{}
			for k, name := range u.params {
				in.args[name] = args[k]
			}
		}
		w.out = w.expansion.expand(w.out, sequence{join(path, u.number), u.body}, in, u.cond)
		w.reach(next, u.cond)
		most = max(most, w.most)
	}
	w.resume(before)
	w.most = max(most, w.most)
}

// arguments expands the pieces of a call, wherever some macro takes them.
func (w *walk) arguments(uses []use, c call) [][]Token {
	calls := diagram.False()
	for _, u := range uses {
		if u.call {
			calls = calls.Or(u.cond)
		}
	}
	if calls.Empty() {
		return nil
	}
	var args [][]Token
	for _, piece := range c.pieces {
		in := scope{w.depth + 1, w.hidden, w.args}
		args = append(args, w.expansion.expand(nil, sequence{w.path, piece}, in, calls))
	}
	return args
}

// call is what may be the arguments of a macro.
type call struct {
	begun  bool // whether there is a (
	closed bool // and the ) that matches it
	pieces [][]token
	next   int // the index of the token behind the )
}

// callAt returns the call that begins with a token, if it is a ( .
func (w *walk) callAt(i int) call {
	l := w.tokens
	if i == len(l) || l[i].text != openSign {
		return call{}
	}
	c := call{begun: true}
	begin, open := i+1, 0
	for k := begin; k < len(l); k++ {
		switch {
		case l[k].text == openSign:
			open++
		case open > 0:
			if l[k].text == closeSign {
				open--
			}
		case l[k].text == commaSign:
			c.pieces = append(c.pieces, l[begin:k])
			begin = k + 1
		case l[k].text == closeSign:
			c.pieces = append(c.pieces, l[begin:k])
			c.closed = true
			c.next = k + 1
			return c
		}
	}
	return c
}

// fits reports whether a macro with so many parameters takes the pieces. What is empty is one piece, or none.
func (c call) fits(params int) bool {
	if params == 0 {
		return c.closed && len(c.pieces) == 1 && len(c.pieces[0]) == 0
	}
	return c.closed && len(c.pieces) == params
}
