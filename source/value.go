package source

import (
	"slices"
	"strconv"

	"motley/api"
	"motley/diagram"
)

// Value returns the values that an if with these tokens would have after the last line.
func Value(files []api.File, names []string, within diagram.D, expr string) ([]Case, api.Errno) {
	w, e := family(files, names, within)
	if e != api.OK {
		return nil, e
	}
	tokens, e := lexLine(expr)
	switch {
	case e != api.OK:
		return nil, e
	case len(tokens) == 0:
		return nil, api.ErrForm
	}
	v := &visit{pass: w, act: within}
	values, _ := v.values(tokens, within)
	var cases []Case
	for _, x := range slices.Sorted(slices.Values(values.keys)) {
		cases = append(cases, Case{Value: x, OK: true, Cond: values.sets[x]})
	}
	if none := without(within, values.union()); !none.Empty() {
		cases = append(cases, Case{Cond: none})
	}
	return cases, api.OK
}

// value returns the configurations, of some, in which the value of an expression is not 0.
func (v *visit) value(expr []token, d diagram.D) diagram.D {
	values, done := v.values(expr, d)
	v.report(api.CodeExpr, without(done, values.union()))
	return without(values.union(), values.sets[0])
}

// values returns the values that an expression has in some configurations, and in which of these it is not too long.
// Where it has no value then, it is no expression.
func (v *visit) values(expr []token, d diagram.D) (shares[int64], diagram.D) {
	tokens, done := v.expand(nil, answers(expr), d)
	c := newCalculator()
	states := share(state{}, done)
	for _, t := range tokens {
		var next shares[state]
		for s, d := range states.all() {
			next.add(s, without(d, t.Cond))
			if after, is := c.next(s, t.Kind, t.Text); is {
				next.add(after, meet(d, t.Cond))
			}
		}
		states = next
	}
	var values shares[int64]
	for s, d := range states.all() {
		if x, is := c.end(s); is {
			values.add(x, d)
		}
	}
	return values, done
}

// answers puts one token in place of each defined with a name. (It stands for the answer; which one that is depends
// on the configuration.)
func answers(expr []token) []token {
	var l []token
	for len(expr) > 0 {
		t, length := expr[0], 1
		if name, end := asked(expr); end > 0 {
			t, length = token{kind: api.TokNumber, index: t.index, asked: name}, end
		}
		l = append(l, t)
		expr = expr[length:]
	}
	return l
}

// asked returns the name for which a defined asks with which tokens begin, and how many tokens that are; otherwise 0.
func asked(l []token) (string, int) {
	isName := func(i int) bool { return i < len(l) && l[i].kind == api.TokName }
	isSign := func(i int, sign string) bool { return i < len(l) && l[i].text == sign }
	switch {
	case l[0].text != definedWord:
	case isName(1):
		return l[1].text, 2
	case isSign(1, openSign) && isName(2) && isSign(3, closeSign):
		return l[2].text, 4
	}
	return "", 0
}

// The levels of operators, the outermost one first. Nothing is on the level of ( .
const (
	openLevel = iota
	orLevel
	andLevel
	compareLevel
	sumLevel
	productLevel
	unaryLevel
)

// calculator reads expressions from the left to the right, in many configurations at once. What was read so far is a
// state: configurations with the same state go on together, however they came to it.
type calculator struct {
	frames []frame // the first one is below all
	places map[frame]int
}

// state is what was read of an expression: the topmost frame; and, behind an operand, the value of this.
type state struct {
	top   int
	ended bool
	value int64
}

// frame is what waits for the end of an operand: a ( , a sign of unary, or an operator with its first operand.
type frame struct {
	below int
	sign  string
	level int
	left  int64
	nest  int // how many ( and signs of unary are open
}

func newCalculator() *calculator {
	return &calculator{frames: make([]frame, 1), places: map[frame]int{}}
}

// push returns the state behind a new frame.
func (c *calculator) push(f frame) state {
	at, is := c.places[f]
	if !is {
		at = len(c.frames)
		c.places[f] = at
		c.frames = append(c.frames, f)
	}
	return state{top: at}
}

// next returns the state after one more token, and whether an expression can go on so.
func (c *calculator) next(s state, kind uint8, text string) (state, bool) {
	switch {
	case s.ended && text == closeSign:
		return c.close(s)
	case s.ended:
		return c.operator(s, text)
	case kind == api.TokNumber:
		x, _ := strconv.ParseInt(text, 10, 64)
		return c.operand(s.top, x), true
	case kind == api.TokName:
		return c.operand(s.top, 0), true
	case text == openSign:
		return c.nested(s.top, text, openLevel)
	case text == "!" || text == "-":
		return c.nested(s.top, text, unaryLevel)
	}
	return state{}, false
}

// nested opens one more ( or sign of unary.
func (c *calculator) nested(top int, sign string, level int) (state, bool) {
	nest := c.frames[top].nest + 1
	return c.push(frame{below: top, sign: sign, level: level, nest: nest}), nest <= api.MaxNest
}

// operand ends an operand, and with it the signs of unary before it.
func (c *calculator) operand(top int, value int64) state {
	for c.frames[top].level == unaryLevel {
		value = applyUnary(c.frames[top].sign, value)
		top = c.frames[top].below
	}
	return state{top, true, value}
}

// close ends the innermost ( .
func (c *calculator) close(s state) (state, bool) {
	s = c.reduce(s, orLevel)
	f := c.frames[s.top]
	return c.operand(f.below, s.value), f.sign == openSign
}

// operator goes on with an operator behind an operand.
func (c *calculator) operator(s state, sign string) (state, bool) {
	level := levelOf(sign)
	if level == openLevel {
		return state{}, false
	}
	if level == compareLevel {
		s = c.reduce(s, sumLevel)
		if c.frames[s.top].level == compareLevel {
			return state{}, false // there is only one comparison between two sums
		}
	}
	s = c.reduce(s, level)
	f := frame{below: s.top, sign: sign, level: level, left: s.value, nest: c.frames[s.top].nest}
	if level <= andLevel {
		f.left = truth(s.value != 0) // fewer states than with all values
	}
	return c.push(f), true
}

// reduce applies the operators of a level and of those further in.
func (c *calculator) reduce(s state, level int) state {
	for c.frames[s.top].level >= level {
		f := c.frames[s.top]
		s = state{f.below, true, apply(f.sign, f.left, s.value)}
	}
	return s
}

// end returns the value of what was read, if it is an expression.
func (c *calculator) end(s state) (int64, bool) {
	ended := s.ended
	s = c.reduce(s, orLevel)
	return s.value, ended && s.top == 0
}

// levelOf is the level of an operator with two operands; openLevel if the sign is none.
func levelOf(sign string) int {
	switch sign {
	case "||":
		return orLevel
	case "&&":
		return andLevel
	case "==", "!=", "<", "<=", ">", ">=":
		return compareLevel
	case "+", "-":
		return sumLevel
	case "*", "/", "%":
		return productLevel
	}
	return openLevel
}

func truth(is bool) int64 {
	if is {
		return 1
	}
	return 0
}

func applyUnary(sign string, x int64) int64 {
	if sign == "-" {
		return -x
	}
	return truth(x == 0)
}

func apply(sign string, x, y int64) int64 {
	switch sign {
	case "||":
		return truth(x != 0 || y != 0)
	case "&&":
		return truth(x != 0 && y != 0)
	case "==":
		return truth(x == y)
	case "!=":
		return truth(x != y)
	case "<":
		return truth(x < y)
	case "<=":
		return truth(x <= y)
	case ">":
		return truth(x > y)
	case ">=":
		return truth(x >= y)
	case "+":
		return x + y
	case "-":
		return x - y
	case "*":
		return x * y
	}
	return divide(sign, x, y)
}

func divide(sign string, x, y int64) int64 {
	switch {
	case y == 0:
		return 0
	case sign == "/":
		return x / y
	}
	return x % y
}
