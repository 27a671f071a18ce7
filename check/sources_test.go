package check_test

import (
	"slices"
	"strconv"
	"strings"
	"testing"

	"motley/syntax"
)

// maker writes sources by chance. As far as it is not wild, it takes care that the programs have no error.
type maker struct {
	*dice
	wild  int  // of 100: how often it takes no care
	loose bool // whether variables may have no value, and functions no return at their end
	scope []variable
	level int
	fresh int
}

// variable is one that is in scope, with the level of the block in which it is declared.
type variable struct {
	name, kind string
	level      int
}

// param is a Param; with a feature it is there only where that is selected.
type param struct{ kind, feature string }

type signature struct {
	name   string
	params []param
	result string
}

// signatures are those of the functions that sources have.
var signatures = []signature{
	{"f", []param{{"int", ""}}, "int"},
	{"h", []param{{"bool", ""}, {"int", ""}}, "bool"},
	{"g", nil, ""},
	{"k", []param{{"int", ""}, {"bool", "A"}, {"int", ""}, {"int", "B"}}, ""},
	{"main", nil, ""},
}

func (m *maker) isWild() bool { return m.roll(100) < m.wild }

// between are lines between the lines of a conditional.
func (m *maker) between(lines ...string) string {
	return "\n#if" + pick(m.dice, "def ", "ndef ") + pick(m.dice, featureNames...) + "\n" +
		strings.Join(lines, "\n#else\n") + "\n#endif\n"
}

// vary writes something, and now and then two of them, one for some configurations and one for the others.
func (m *maker) vary(write func() string) string {
	if m.roll(6) > 0 {
		return write()
	}
	return m.between(write(), write())
}

func (m *maker) typeName() string { return pick(m.dice, "int", "bool") }

// text is a source.
func (m *maker) text() string {
	var out []string
	for range m.roll(3) {
		out = append(out, m.global())
	}
	for _, s := range signatures {
		if s.name == "main" || m.roll(3) > 0 || m.wild == 0 {
			out = append(out, m.function(s))
		}
		if m.isWild() {
			out = append(out, m.odd())
		}
	}
	return strings.Join(out, "\n")
}

func (m *maker) global() string {
	kind := m.typeName()
	value := ""
	if m.roll(2) == 0 {
		value = "= " + m.constant(kind)
	}
	name := m.newName()
	if m.isWild() {
		name = pick(m.dice, "x", "f", "main")
	}
	if m.isWild() {
		return m.between("var " + name + " : " + m.typeName() + " ;")
	}
	m.scope = append(m.scope, variable{name, kind, 0})
	return "var " + name + " : " + kind + " " + value + " ;"
}

func (m *maker) constant(kind string) string {
	if m.isWild() {
		return pick(m.dice, "read", "f ( read )", "x + 1", "main", "1 < y", "g ( ) == 1")
	}
	if kind == "bool" {
		return m.vary(func() string { return pick(m.dice, "true", "1 < 2", "! false") })
	}
	return m.vary(func() string { return pick(m.dice, "1", "2 + 3 * 4", "- 5") })
}

// odd is a declaration that may have another place in each configuration, or be another one.
func (m *maker) odd() string {
	name := pick(m.dice, "f", "x", "main", "y")
	return "\n#ifdef A\nfn\n#else\nvar\n#endif\n" + name + "\n#ifdef A\n( ) { print x ; }\n#else\n: int = " +
		pick(m.dice, "1", "y", "true") + " ;\n#endif\n"
}

func (m *maker) function(s signature) string {
	scope := m.scope
	m.level = 1
	names := []string{"p", "q", "r", "s"}
	params := m.list(s.params, func(k int, kind string) string {
		name := names[k]
		if m.isWild() {
			name, kind = pick(m.dice, "p", "x"), m.typeName()
		}
		if s.params[k].feature == "" {
			m.scope = append(slices.Clone(m.scope), variable{name, kind, m.level})
		}
		return name + " : " + kind
	})
	result := ""
	if s.result != "" && !m.isWild() {
		result = ": " + s.result
	}
	body := m.body(2)
	if s.result != "" && !m.isWild() && !(m.loose && m.roll(4) == 0) {
		body += "\nreturn " + m.expression(s.result, 2) + " ;"
	}
	m.scope = scope
	return "fn " + s.name + " ( " + params + " ) " + result + m.begin() + body + "\n}"
}

// begin is a brace, or one of two, so that what comes behind it has another parent in each configuration.
func (m *maker) begin() string {
	if m.roll(5) == 0 {
		return m.between("{", "{")
	}
	return " {\n"
}

// list writes something for each Param, with commas between them.
func (m *maker) list(params []param, write func(k int, kind string) string) string {
	out := ""
	for k, p := range params {
		one := write(k, p.kind)
		if k > 0 {
			one = " , " + one
		}
		if p.feature != "" {
			one = "\n#ifdef " + p.feature + "\n" + one + "\n#endif\n"
		}
		out += one
	}
	return out
}

// body are statements; what they declare is forgotten behind them.
func (m *maker) body(depth int) string {
	scope := m.scope
	m.level++
	var out []string
	for range m.roll(3) + depth/2 {
		out = append(out, m.varied(depth))
	}
	m.level--
	m.scope = scope
	return strings.Join(out, "\n")
}

func (m *maker) varied(depth int) string {
	if m.roll(4) > 0 {
		return m.statement(depth)
	}
	scope := m.scope
	one := m.statement(depth)
	m.scope = scope
	if m.roll(2) == 0 {
		return m.between(one)
	}
	other := m.statement(depth)
	m.scope = scope
	return m.between(one, other)
}

func (m *maker) statement(depth int) string {
	if depth == 0 || m.roll(3) == 0 {
		return m.simple()
	}
	block := func() string { return m.begin() + m.body(depth-1) + "\n}" }
	head := "( " + m.expression("bool", 2) + " ) "
	if m.roll(10) == 0 {
		head = "( true ) "
	}
	switch m.roll(7) {
	case 0:
		return "while " + head + block()
	case 1:
		return "if " + head + block() + " else " + block()
	case 2:
		return "if " + head + block() + m.between(" else "+block())
	case 3:
		return "if " + head + block() + " else if " + head + block()
	case 4:
		return "\n#ifdef B\nwhile\n#else\nif\n#endif\n" + head + block()
	case 5:
		return "\n#ifdef C\n{\n#endif\n" + m.body(depth-1) + "\n#ifdef C\n}\n#endif\n"
	}
	return block()
}

func (m *maker) simple() string {
	switch m.roll(9) {
	case 0, 1, 2:
		return m.variable()
	case 3, 4:
		return m.assign()
	case 5:
		return "assert " + m.expression("bool", 2) + " ;"
	case 6:
		if m.isWild() {
			both := pick(m.dice, "x", "p", "f") + m.between("= 1", "( )") + " ;"
			return pick(m.dice, "return ;", "return 1 ;", "return x == x ;", both)
		}
		return m.call(pick(m.dice, signatures...), 1) + " ;"
	}
	return "print " + m.expression(m.typeName(), 3) + " ;"
}

// newName is a name that nothing had before.
func (m *maker) newName() string {
	m.fresh++
	return "v" + strconv.Itoa(m.fresh)
}

func (m *maker) variable() string {
	kind := m.typeName()
	name := m.newName()
	value := "= " + m.expression(kind, 2)
	if m.loose && m.roll(3) == 0 {
		value = ""
	}
	if o, is := m.outer(); is && m.roll(2) == 0 { // what comes behind it means different variables
		return m.between("var " + o.name + " : " + o.kind + " = " + m.expression(o.kind, 1) + " ;")
	}
	if m.isWild() {
		name = pick(m.dice, "x", "y", "p")
		value = pick(m.dice, "", value)
	}
	m.scope = append(slices.Clone(m.scope), variable{name, kind, m.level})
	if m.isWild() {
		return "var " + name + " : " + m.between("int", "bool") + value + " ;"
	}
	return "var " + name + " : " + kind + " " + value + " ;"
}

// outer is a variable of a block around this one, whose name may be taken again here.
func (m *maker) outer() (variable, bool) {
	if len(m.scope) == 0 {
		return variable{}, false
	}
	v := pick(m.dice, m.scope...)
	for _, o := range m.scope {
		if o.name == v.name && o.level == m.level {
			return v, false
		}
	}
	return v, true
}

func (m *maker) assign() string {
	if len(m.scope) == 0 {
		return "print 0 ;"
	}
	v := pick(m.dice, m.scope...)
	return v.name + " = " + m.expression(v.kind, 2) + " ;"
}

// name is that of a variable, or a value if there is none of this type.
func (m *maker) name(kind string) string {
	if m.isWild() {
		return pick(m.dice, "x", "y", "p", "q", "f", "main", "nobody")
	}
	for range 8 {
		if len(m.scope) > 0 {
			if v := pick(m.dice, m.scope...); v.kind == kind {
				return v.name
			}
		}
	}
	if kind == "bool" {
		return "false"
	}
	return "7"
}

func (m *maker) call(s signature, depth int) string {
	args := m.list(s.params, func(_ int, kind string) string { return m.expression(kind, depth) })
	if m.isWild() {
		args = m.list(append(slices.Clone(s.params), param{"int", "C"}), func(_ int, kind string) string {
			return m.expression(kind, depth)
		})
	}
	return s.name + " ( " + args + " )"
}

func (m *maker) expression(kind string, depth int) string {
	return m.vary(func() string { return m.operation(kind, depth) })
}

func (m *maker) operation(kind string, depth int) string {
	if m.isWild() {
		kind = m.typeName()
	}
	if depth == 0 || m.roll(3) == 0 {
		if kind == "int" && m.roll(4) == 0 {
			return "read"
		}
		return m.name(kind)
	}
	in := func(kind string) string { return "( " + m.expression(kind, depth-1) + " )" }
	if kind == "int" {
		switch m.roll(4) {
		case 0:
			return m.call(signatures[0], depth-1)
		case 1:
			return "- " + in("int")
		}
		return in("int") + pick(m.dice, " + ", " / ") + in("int")
	}
	switch m.roll(5) {
	case 0:
		return m.call(signatures[1], depth-1)
	case 1:
		return "! " + in("bool")
	case 2:
		same := m.typeName()
		return in(same) + pick(m.dice, " == ", " != ") + in(same)
	case 3:
		return in("bool") + pick(m.dice, " && ", " || ") + in("bool")
	}
	return in("int") + pick(m.dice, " < ", " >= ") + in("int")
}

// eachSource tries something with many sources; some of them are no program in some configurations.
func eachSource(t *testing.T, count int, try func(text string, x syntax.Tree, d *dice)) {
	t.Helper()
	d := newDice()
	for k := range count {
		m := &maker{dice: d, wild: []int{0, 2, 10, 30}[k%4], loose: k%8 > 3}
		text := m.text()
		if k%16 == 5 {
			text += m.between("print")
			try(text, parsed(t, text), d)
			continue
		}
		try(text, program(t, text), d)
	}
}
