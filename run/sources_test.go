package run_test

import (
	"slices"
	"strconv"
	"strings"
	"testing"

	"motley/run"
)

// maker writes sources by chance. As far as it is not wild, the programs have no error.
type maker struct {
	*dice
	wild  int // of 100: how often it writes something that is an error
	scope []variable
	level int
	fresh int
	fn    int // the index of the function that is written
}

// variable is one that is in scope, with the level of the block in which it is declared.
type variable struct {
	name, kind string
	level      int
}

// param is a Param; with a feature it is there only where that is selected.
type param struct{ kind, feature string }

type signature struct {
	name   string
	params []param
	result string
}

// signatures are those of the functions that sources have. As a rule each calls only those before it.
var signatures = []signature{
	{"f", []param{{"int", ""}}, "int"},
	{"h", []param{{"bool", ""}, {"int", ""}}, "bool"},
	{"k", []param{{"int", "A"}, {"bool", ""}, {"int", "B"}, {"int", ""}}, "int"},
	{"g", nil, ""},
	{"main", nil, ""},
}

// between are lines between the lines of a conditional.
func (m *maker) between(lines ...string) string {
	return "\n#if" + pick(m.dice, "def ", "ndef ") + pick(m.dice, featureNames...) + "\n" +
		strings.Join(lines, "\n#else\n") + "\n#endif\n"
}

// vary writes something, and now and then two of them, one for some configurations and one for the others.
func (m *maker) vary(write func() string) string {
	if m.roll(12) > 0 {
		return write()
	}
	return m.between(write(), write())
}

func (m *maker) text() string {
	var out []string
	for range m.roll(4) {
		out = append(out, m.global())
	}
	for k, s := range signatures {
		m.fn = k
		out = append(out, m.function(s))
	}
	return strings.Join(out, "\n")
}

func (m *maker) typeName() string { return pick(m.dice, "int", "bool") }

func (m *maker) newName() string {
	m.fresh++
	return "v" + strconv.Itoa(m.fresh)
}

func (m *maker) global() string {
	kind, name := m.typeName(), m.newName()
	value := "= " + m.vary(func() string { return m.constant(kind) })
	if m.roll(3) == 0 {
		value = m.between(value)
	}
	m.scope = append(m.scope, variable{name, kind, 0})
	return "var " + name + " : " + kind + " " + value + " ;"
}

func (m *maker) constant(kind string) string {
	if kind == "bool" {
		return pick(m.dice, "true", "1 < 2", "! false")
	}
	return pick(m.dice, "1", "2 + 3 * 4", "- 5", "7 / 2", "7 / 0")
}

// function writes a Fn. What an inner Block of it declares may hide its Params.
func (m *maker) function(s signature) string {
	scope := m.scope
	m.level = 1
	names := []string{"p", "q", "r", "s"}
	params := m.list(s.params, func(k int, kind string) string {
		if s.params[k].feature == "" {
			m.scope = append(slices.Clone(m.scope), variable{names[k], kind, 1})
		}
		return names[k] + " : " + kind
	})
	result := ""
	if s.result != "" {
		result = ": " + s.result
	}
	body := m.body(1 + m.roll(2))
	if s.result != "" {
		body += "\n" + m.leave()
	}
	m.scope = scope
	return "fn " + s.name + " ( " + params + " ) " + result + " {\n" + body + "\n}"
}

// list writes something for each Param, with commas between them; the first one without a feature has none before it.
func (m *maker) list(params []param, write func(k int, kind string) string) string {
	out, begun := "", false
	for k, p := range params {
		one := write(k, p.kind)
		switch {
		case p.feature == "" && begun:
			out += " , " + one
		case p.feature == "":
			out, begun = out+one, true
		case begun:
			out += "\n#ifdef " + p.feature + "\n , " + one + "\n#endif\n"
		default:
			out += "\n#ifdef " + p.feature + "\n" + one + " ,\n#endif\n"
		}
	}
	return out
}

// leave is a Return as the function needs it.
func (m *maker) leave() string {
	result := signatures[m.fn].result
	if result == "" {
		return "return ;"
	}
	return "return " + m.expression(result, 2) + " ;"
}

// body are statements; what they declare is forgotten behind them.
func (m *maker) body(depth int) string {
	scope := m.scope
	m.level++
	var out []string
	for range 1 + m.roll(3) {
		out = append(out, m.varied(depth))
	}
	m.level--
	m.scope = scope
	return strings.Join(out, "\n")
}

// varied is a statement, or one for some configurations, or two.
func (m *maker) varied(depth int) string {
	if m.roll(3) > 0 {
		return m.statement(depth)
	}
	one := m.apart(depth)
	if m.roll(2) == 0 {
		return m.between(one)
	}
	return m.between(one, m.apart(depth))
}

// apart is a statement that only some configurations have: behind it what it declares is known only if there was one
// with this name before.
func (m *maker) apart(depth int) string {
	scope := m.scope
	text := m.statement(depth)
	kept := slices.Clone(scope)
	for _, v := range m.scope[len(scope):] {
		if slices.ContainsFunc(scope, func(o variable) bool { return o.name == v.name }) {
			kept = append(kept, v)
		}
	}
	m.scope = kept
	return text
}

func (m *maker) statement(depth int) string {
	if depth == 0 || m.roll(3) == 0 {
		return m.simple()
	}
	head := func() string { return "( ! ( " + m.expression("bool", 2) + " ) ) " } // true alone has no end
	block := func() string { return "{\n" + m.body(depth-1) + m.lastly() + "\n}" }
	switch m.roll(8) {
	case 0:
		return "while " + head() + block()
	case 1, 2:
		return m.loop(depth)
	case 3:
		return "if " + head() + block() + " else {\n" + m.body(depth-1) + "\n}"
	case 4:
		return "if " + head() + block() + m.between(" else {\n"+m.body(depth-1)+"\n}")
	case 5:
		return "if " + head() + block() + " else if " + head() + block()
	case 6:
		return "\n#ifdef B\nwhile\n#else\nif\n#endif\n" + head() + block()
	}
	return "{\n" + m.body(depth-1) + "\n}"
}

// lastly is what may be the end of a Block behind a condition.
func (m *maker) lastly() string {
	switch m.roll(6) {
	case 0:
		return "\n" + m.leave()
	case 1:
		return m.between(m.leave())
	}
	return ""
}

// loop is a While that ends, as a rule.
func (m *maker) loop(depth int) string {
	name := m.newName()
	first := m.vary(func() string { return strconv.Itoa(m.roll(5)) })
	scope := m.scope
	m.scope = append(slices.Clone(scope), variable{name, "int", m.level})
	body := m.body(depth - 1)
	m.scope = scope
	return "{\nvar " + name + " : int = " + first + " ;\nwhile ( " + name + " > 0 ) {\n" + body + "\n" +
		name + " = " + name + " - " + m.vary(func() string { return strconv.Itoa(1 + m.roll(2)) }) + " ;\n}\n}"
}

func (m *maker) simple() string {
	if m.roll(100) < m.wild {
		return pick(m.dice, "print nobody ;", "f ( true ) ;", "main = 1 ;", "g ( 1 ) ;")
	}
	switch m.roll(9) {
	case 0, 1:
		return m.variable()
	case 2, 3, 4:
		return m.assign()
	case 5:
		return "assert " + m.expression("int", 2) + " != " + strconv.Itoa(m.roll(4)) + " ;"
	case 6:
		return m.call(m.callee(func(signature) bool { return true }), 1) + " ;"
	}
	return "print " + m.expression(m.typeName(), 3) + " ;"
}

// variable declares one, with a new name or with that of one around it, which is then another variable in some
// configurations.
func (m *maker) variable() string {
	kind, name := m.typeName(), m.newName()
	if o, is := m.outer(); is && m.roll(2) == 0 {
		text := m.between("var " + o.name + " : " + o.kind + " = " + m.expression(o.kind, 1) + " ;")
		m.scope = append(slices.Clone(m.scope), variable{o.name, o.kind, m.level})
		return text
	}
	text := "var " + name + " : " + kind + " = " + m.expression(kind, 2) + " ;"
	if m.roll(5) == 0 {
		text = "var " + name + " : " + kind + " ; " + name + " = " + m.expression(kind, 2) + " ;"
	}
	m.scope = append(slices.Clone(m.scope), variable{name, kind, m.level})
	return text
}

// outer is a variable of a block around this one, whose name may be taken again here.
func (m *maker) outer() (variable, bool) {
	if len(m.scope) == 0 || m.level < 3 {
		return variable{}, false
	}
	v := pick(m.dice, m.scope...)
	taken := slices.ContainsFunc(m.scope, func(o variable) bool { return o.name == v.name && o.level == m.level })
	return v, !taken
}

func (m *maker) assign() string {
	if len(m.scope) == 0 {
		return "print 0 ;"
	}
	v := pick(m.dice, m.scope...)
	return v.name + " = " + m.expression(v.kind, 2) + " ;"
}

// name is that of a variable, or a value if there is none of this type.
func (m *maker) name(kind string) string {
	for range 8 {
		if len(m.scope) > 0 {
			if v := pick(m.dice, m.scope...); v.kind == kind {
				return v.name
			}
		}
	}
	if kind == "bool" {
		return pick(m.dice, "false", "true")
	}
	return strconv.Itoa(m.roll(10))
}

// callee is a function that may be called: now and then any.
func (m *maker) callee(fits func(signature) bool) signature {
	var l []signature
	for k, s := range signatures {
		if (k < m.fn || m.roll(8) == 0) && fits(s) {
			l = append(l, s)
		}
	}
	if len(l) == 0 {
		return signature{}
	}
	return pick(m.dice, l...)
}

// call calls a function, or prints something if there is none.
func (m *maker) call(s signature, depth int) string {
	if s.name == "" {
		return "print 1"
	}
	return s.name + " ( " + m.list(s.params, func(_ int, kind string) string { return m.expression(kind, depth) }) + " )"
}

func (m *maker) expression(kind string, depth int) string {
	return m.vary(func() string { return m.operation(kind, depth) })
}

func (m *maker) operation(kind string, depth int) string {
	if depth == 0 || m.roll(3) == 0 {
		if kind == "int" && m.roll(3) == 0 {
			return "read"
		}
		return m.name(kind)
	}
	if m.roll(4) == 0 {
		s := m.callee(func(s signature) bool { return s.result == kind })
		if s.name != "" {
			return m.call(s, depth-1)
		}
	}
	in := func(kind string) string { return "( " + m.expression(kind, depth-1) + " )" }
	if kind == "int" {
		if m.roll(5) == 0 {
			return "- " + in("int")
		}
		return in("int") + pick(m.dice, " + ", " + ", " - ", " - ", " * ", " / ", " % ") + in("int")
	}
	switch m.roll(4) {
	case 0:
		return "! " + in("bool")
	case 1:
		same := m.typeName()
		return in(same) + pick(m.dice, " == ", " != ") + in(same)
	case 2:
		return in("bool") + pick(m.dice, " && ", " || ") + in("bool")
	}
	return in("int") + pick(m.dice, " < ", " >= ", " > ", " <= ") + in("int")
}

// inputs are some numbers.
func (m *maker) inputs() []int64 {
	var l []int64
	for range m.roll(6) {
		l = append(l, int64(m.roll(9))-2)
	}
	return l
}

// eachSource tries something with many sources; some of them are no program, or have an error, in some configurations.
func eachSource(t *testing.T, count int, try func(text string, b run.Built, m *maker)) {
	t.Helper()
	d := newDice()
	for k := range count {
		m := &maker{dice: d}
		if k%4 == 3 {
			m.wild = 5
		}
		text := m.text()
		if k%16 == 5 {
			text += m.between("print")
		}
		b := built(t, text)
		if k%4 < 3 && k%16 != 5 && !b.Good.Full() {
			t.Fatalf("not good everywhere:\n%s", text)
		}
		try(text, b, m)
	}
}
