package syntax_test

import (
	"slices"
	"strconv"
	"strings"
	"testing"

	"motley/api"
	"motley/diagram"
	"motley/source"
	"motley/syntax"
)

// dice gives numbers that look like chance, the same ones in each run.
type dice uint64

func newDice() *dice {
	d := dice(88172645463325252)
	return &d
}

func (d *dice) roll(n int) int {
	*d ^= *d << 13
	*d ^= *d >> 7
	*d ^= *d << 17
	return int(*d >> 1 % dice(n))
}

func pick[T any](d *dice, l ...T) T { return l[d.roll(len(l))] }

// tokens is a list of tokens, all of which are there everywhere. There may be more of them than a line has.
func tokens(t testing.TB, text string) source.List {
	t.Helper()
	var l source.List
	for _, word := range strings.Fields(text) {
		one, e := source.Lex(word)
		if e != api.OK {
			t.Fatalf("Lex of %q: %v", word, e)
		}
		l.Tokens = append(l.Tokens, one...)
	}
	return l
}

// some is a list of tokens of which those that stand in [ ] with a letter before them are there only in some
// configurations: [a with the feature 0, [b with 1, and so on; [A, [B .. without it.
func some(t testing.TB, text string) source.List {
	t.Helper()
	var l source.List
	conds := []diagram.D{diagram.True()}
	for _, word := range strings.Fields(text) {
		switch {
		case word == "]":
			conds = conds[:len(conds)-1]
		case word[0] == '[':
			letter := word[1]
			d := diagram.Cube(1<<(letter|32-'a'), 0)
			if letter < 'a' {
				d = d.Not()
			}
			conds = append(conds, d.And(conds[len(conds)-1]))
		default:
			one := tokens(t, word)
			for k := range one.Tokens {
				one.Tokens[k].Cond = conds[len(conds)-1]
			}
			l.Tokens = append(l.Tokens, one.Tokens...)
		}
	}
	return l
}

// plain is the tree of tokens that are there everywhere.
func plain(t testing.TB, text string) syntax.Tree {
	t.Helper()
	return syntax.Plain(tokens(t, text), 0)
}

// parsed is the tree of tokens of which some are there only in some configurations.
func parsed(t testing.TB, text string) syntax.Tree {
	t.Helper()
	return syntax.Family(some(t, text), diagram.True())
}

var kindNames = map[uint8]string{
	api.Program: "Program", api.Var: "Var", api.Fn: "Fn", api.Param: "Param", api.TypeName: "TypeName",
	api.Block: "Block", api.Assign: "Assign", api.If: "If", api.While: "While", api.Return: "Return",
	api.Print: "Print", api.Assert: "Assert", api.Binary: "Binary", api.Unary: "Unary", api.Number: "Number",
	api.Bool: "Bool", api.Read: "Read", api.Name: "Name", api.Call: "Call",
}

// shown is a node as a text: its kind, its text, its token, and its kids by slots.
func shown(n syntax.Node) string {
	out := kindNames[n.Kind]
	if n.Text != "" {
		out += " " + n.Text
	}
	if n.Tok >= 0 {
		out += "@" + strconv.Itoa(n.Tok)
	}
	var kids []string
	for _, kid := range n.Kids {
		kids = append(kids, strconv.Itoa(kid.Slot)+":"+shown(kid))
	}
	if len(kids) > 0 {
		out += "(" + strings.Join(kids, " ") + ")"
	}
	return out
}

// outcome is a tree as a text.
func outcome(t syntax.Tree) string {
	var out []string
	for _, n := range t.Kids {
		out = append(out, shown(n))
	}
	for _, g := range t.Diags {
		out = append(out, strconv.Itoa(int(g.Code))+" at "+strconv.Itoa(g.Tok))
	}
	return strings.Join(out, " ")
}

// universal reports whether all conditions of a tree are True.
func universal(t syntax.Tree) bool {
	for _, n := range syntax.Walk(t) {
		if !n.Cond.Full() {
			return false
		}
	}
	return !slices.ContainsFunc(t.Diags, func(g syntax.Diag) bool { return !g.Cond.Full() })
}

// set is the set of the configurations below 2^n that are chosen, whatever the other features are.
func set(n int, chosen func(c uint32) bool) diagram.D {
	d := diagram.False()
	for c := range uint32(1) << n {
		if chosen(c) {
			d = d.Or(diagram.Cube(c, (1<<n-1)&^c))
		}
	}
	return d
}

// someSet is a set of configurations that is chosen by dice.
func someSet(d *dice, n int) diagram.D {
	return set(n, func(uint32) bool { return d.roll(2) == 0 })
}

// maker makes the words of a program.
type maker struct {
	*dice
	words []string
	left  int // statements that may still be made
}

func (m *maker) put(words ...string) { m.words = append(m.words, words...) }

func (m *maker) name() string { return pick(m.dice, "x", "y", "f", "main", "_1") }

// program makes declarations.
func (m *maker) program() {
	for range 1 + m.roll(3) {
		if m.roll(3) == 0 {
			m.variable()
			continue
		}
		m.put("fn", m.name(), "(")
		for k := range m.roll(3) {
			if k > 0 {
				m.put(",")
			}
			m.put(m.name(), ":", pick(m.dice, "int", "bool"))
		}
		m.put(")")
		if m.roll(2) == 0 {
			m.put(":", pick(m.dice, "int", "bool"))
		}
		m.block()
	}
}

func (m *maker) variable() {
	m.put("var", m.name(), ":", pick(m.dice, "int", "bool"))
	if m.roll(2) == 0 {
		m.put("=")
		m.expression(2)
	}
	m.put(";")
}

func (m *maker) block() {
	m.put("{")
	for m.left > 0 && m.roll(3) > 0 {
		m.left--
		m.statement()
	}
	m.put("}")
}

func (m *maker) statement() {
	switch m.roll(9) {
	case 0:
		m.variable()
	case 1:
		m.put(m.name(), "=")
		m.expression(3)
		m.put(";")
	case 2:
		m.call(2)
		m.put(";")
	case 3, 4:
		m.choice()
	case 5:
		m.put("while", "(")
		m.expression(2)
		m.put(")")
		m.block()
	case 6:
		m.block()
	case 7:
		m.put("return")
		if m.roll(2) == 0 {
			m.expression(2)
		}
		m.put(";")
	default:
		m.put(pick(m.dice, "print", "assert"))
		m.expression(3)
		m.put(";")
	}
}

func (m *maker) choice() {
	m.put("if", "(")
	m.expression(2)
	m.put(")")
	m.block()
	switch m.roll(3) {
	case 0:
		m.put("else")
		m.block()
	case 1:
		m.put("else")
		m.choice()
	}
}

func (m *maker) call(levels int) {
	m.put(m.name(), "(")
	for k := range m.roll(3) {
		if k > 0 {
			m.put(",")
		}
		m.expression(levels)
	}
	m.put(")")
}

func (m *maker) expression(levels int) {
	switch k := m.roll(8); {
	case levels == 0 || k == 0:
		m.put(pick(m.dice, "x", "y", "0", "12", "true", "false", "read"))
	case k == 1:
		m.call(levels - 1)
	case k == 2:
		m.put(pick(m.dice, "!", "-"))
		m.expression(levels - 1)
	case k == 3:
		m.put("(")
		m.expression(levels - 1)
		m.put(")")
	default:
		m.expression(levels - 1)
		m.put(pick(m.dice, "||", "&&", "==", "<", ">=", "+", "-", "*", "/"))
		m.expression(levels - 1)
	}
}

// someWords are the words of a program, with some mistakes.
func someWords(d *dice, mistakes int) []string {
	m := &maker{dice: d, left: 1 + d.roll(8)}
	m.program()
	words := m.words
	for range mistakes {
		k := d.roll(len(words))
		switch d.roll(3) {
		case 0:
			words = slices.Delete(words, k, k+1)
		case 1:
			words = slices.Insert(words, k, someWord(d))
		default:
			words[k] = someWord(d)
		}
		if len(words) == 0 {
			words = []string{"fn"}
		}
	}
	return words
}

func someWord(d *dice) string {
	return pick(d, "var", "fn", "int", "bool", "if", "else", "while", "return", "print", "assert", "true", "read", "x", "f",
		"1", "(", ")", "(", ")", "{", "}", "{", "}", ",", ":", ";", ";", "=", "||", "&&", "==", "<", "+", "-", "*", "!")
}

// someList is a list of tokens with conditions on n features: words with pieces that are not there everywhere, or
// that are there in two forms.
func someList(t testing.TB, d *dice, n, mistakes int) source.List {
	l := tokens(t, strings.Join(someWords(d, mistakes), " "))
	for range d.roll(5) {
		if len(l.Tokens) == 0 {
			break
		}
		from, to := somePiece(d, l.Tokens)
		cond := pick(d, diagram.Cube(1<<d.roll(n), 0), diagram.Cube(0, 1<<d.roll(n)), someSet(d, n))
		piece := slices.Clone(l.Tokens[from:to])
		for k := range piece {
			piece[k].Cond = piece[k].Cond.And(cond)
		}
		switch d.roll(3) {
		case 0: // it is there in some configurations only
			copy(l.Tokens[from:to], piece)
		case 1: // it comes once more in some configurations
			l.Tokens = slices.Insert(l.Tokens, to, piece...)
		default: // there is something else in the others
			copy(l.Tokens[from:to], piece)
			other := tokens(t, strings.Join(someWords(d, 1)[:1], " ")+" "+someWord(d))
			for k := range other.Tokens {
				other.Tokens[k].Cond = cond.Not()
			}
			l.Tokens = slices.Insert(l.Tokens, to, other.Tokens...)
		}
	}
	return l
}

// somePiece is where a piece of some tokens is; mostly it is one that can be left out.
func somePiece(d *dice, l []source.Token) (from, to int) {
	from = d.roll(len(l))
	if d.roll(4) == 0 {
		return from, min(len(l), from+1+d.roll(pick(d, 1, 2, 5, 20)))
	}
	for ; from > 0 && !strings.Contains("{};", l[from-1].Text); from-- {
	}
	open := 0
	for to = from; to < len(l); {
		switch l[to].Text {
		case "{", "(":
			open++
		case "}", ")":
			open--
		}
		to++
		if open == 0 && strings.Contains("};", l[to-1].Text) && (to == len(l) || l[to].Text != "else") {
			return from, to
		}
	}
	return from, to
}

// words are the texts of tokens with their conditions, for messages.
func words(l source.List) string {
	var out []string
	for _, t := range l.Tokens {
		word := t.Text
		if !t.Cond.Full() {
			word += "[" + strconv.Itoa(int(table(t.Cond, 3))) + "]"
		}
		out = append(out, word)
	}
	return strings.Join(out, " ")
}

// table is a set of configurations of n features, as bits.
func table(d diagram.D, n int) uint64 {
	bits := uint64(0)
	for c := range d.All(n) {
		bits |= 1 << c
	}
	return bits
}

// panics reports whether a function panics.
func panics(f func()) (is bool) {
	defer func() { is = recover() != nil }()
	f()
	return false
}
