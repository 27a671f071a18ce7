package source_test

import (
	"slices"
	"strconv"
	"strings"
	"testing"

	"motley/api"
	"motley/diagram"
	"motley/source"
)

// dice gives numbers that look like chance, the same ones in each run.
type dice uint64

func (d *dice) roll(n int) int {
	*d ^= *d << 13
	*d ^= *d >> 7
	*d ^= *d << 17
	return int(*d >> 1 % dice(n))
}

func pick[T any](d *dice, l ...T) T { return l[d.roll(len(l))] }

// file is a main file alone, of some lines.
func file(lines ...string) []api.File {
	return []api.File{{Name: "main", Text: strings.Join(lines, "\n")}}
}

// same reports whether a list is what the reference has found, with the condition True everywhere.
func (r *reference) same(l source.List) bool {
	return slices.EqualFunc(r.words, l.Tokens, func(w word, t source.Token) bool {
		return w.kind == t.Kind && w.text == t.Text && slices.Equal(w.path, t.Path) && w.file == t.File &&
			w.line == t.Line && t.Cond.Full()
	}) && slices.EqualFunc(r.faults, l.Diags, func(f fault, g source.Diag) bool {
		return f.code == g.Code && slices.Equal(f.path, g.Path) && f.file == g.File && f.line == g.Line && g.Cond.Full()
	})
}

func numbers(l ...int) string {
	var out []string
	for _, x := range l {
		out = append(out, strconv.Itoa(x))
	}
	return strings.Join(out, " ")
}

// texts are the texts of tokens, with a blank between two.
func texts(l source.List) string {
	var out []string
	for _, t := range l.Tokens {
		out = append(out, t.Text)
	}
	return strings.Join(out, " ")
}

// codes are the codes of diagnostics with their paths.
func codes(l source.List) string {
	var out []string
	for _, g := range l.Diags {
		out = append(out, strconv.Itoa(int(g.Code))+" at "+numbers(g.Path...))
	}
	return strings.Join(out, ", ")
}

func plain(t *testing.T, files []api.File, names []string, c uint32) source.List {
	t.Helper()
	l, e := source.Plain(files, names, c)
	if e != api.OK {
		t.Fatalf("Plain of %q: %v", files, e)
	}
	return l
}

func family(t *testing.T, files []api.File, names []string, within diagram.D) source.List {
	t.Helper()
	l, e := source.Family(files, names, within)
	if e != api.OK {
		t.Fatalf("Family of %q: %v", files, e)
	}
	return l
}

// set is the set of the configurations below 2^n that are chosen, whatever the other features are.
func set(n int, chosen func(c uint32) bool) diagram.D {
	d := diagram.False()
	for c := range uint32(1) << n {
		if chosen(c) {
			d = d.Or(diagram.Cube(c, (1<<n-1)&^c))
		}
	}
	return d
}

// someSet is a set of configurations that is chosen by dice.
func someSet(d *dice, n int) diagram.D {
	return set(n, func(uint32) bool { return d.roll(2) == 0 })
}

// project is a project of some files, made by dice.
type project struct {
	files []api.File
	names []string
}

// maker makes the lines of a project.
type maker struct {
	*dice
	names   []string // of features
	macros  []string
	calls   map[string]int // how many parameters a function-like macro mostly has
	heavy   bool           // whether lines take many steps
	file    int
	files   int
	lines   []string
	budget  int
	inCalls int
}

func someProject(d *dice, heavy bool) project {
	p := project{names: []string{"A", "B", "C", "D", "E"}[:d.roll(6)]}
	files := 1 + d.roll(4)
	for k := range files {
		m := maker{dice: d, names: p.names, heavy: heavy, file: k, files: files, budget: 4 + d.roll(16)}
		m.macros = []string{"M", "N", "O", "F", "G", "H"}
		m.calls = map[string]int{"F": 0, "G": 1, "H": 2}
		m.block(0)
		text := strings.Join(m.lines, "\n")
		if d.roll(2) == 0 {
			text += "\n"
		}
		p.files = append(p.files, api.File{Name: "f" + strconv.Itoa(k), Text: text})
	}
	return p
}

func (m *maker) put(words ...string) { m.lines = append(m.lines, strings.Join(words, "")) }

func (m *maker) block(depth int) {
	for n := 1 + m.roll(5); n > 0 && m.budget > 0; n-- {
		m.budget--
		switch k := m.roll(20); {
		case k < 6 && depth < 4:
			m.conditional(depth)
		case k < 12:
			m.definition()
		case k == 12:
			m.put(" # undef ", pick(m.dice, m.macros...))
		case k == 13 && m.file+1 < m.files:
			m.put("#include \"f", strconv.Itoa(m.file+1+m.roll(m.files-m.file-1)), "\" // see there")
		case k == 14:
			m.put("#error 'no'")
		default:
			m.put(m.sequence(6))
		}
	}
}

func (m *maker) conditional(depth int) {
	switch m.roll(3) {
	case 0:
		m.put("#ifdef ", m.name())
	case 1:
		m.put("#ifndef ", m.name())
	default:
		m.put("#if ", m.condition())
	}
	m.block(depth + 1)
	for m.roll(3) == 0 {
		m.put("#elif ", m.condition())
		m.block(depth + 1)
	}
	if m.roll(2) == 0 {
		m.put("#else")
		m.block(depth + 1)
	}
	m.put("#endif // of it")
}

func (m *maker) name() string {
	if m.roll(2) == 0 && len(m.names) > 0 {
		return pick(m.dice, m.names...)
	}
	return pick(m.dice, m.macros...)
}

func (m *maker) definition() {
	name := pick(m.dice, m.macros...)
	count, is := m.calls[name]
	if m.roll(6) == 0 {
		count, is = m.roll(3), !is
	}
	params := []string{"x", pick(m.dice, "y", "M", "G", "A")}[:count]
	head := name
	if is {
		head += "(" + strings.Join(params, ", ") + ")"
	}
	var body []string
	for range m.roll(4) {
		if len(params) > 0 && m.roll(2) == 0 {
			body = append(body, pick(m.dice, params...))
			continue
		}
		body = append(body, m.sequence(2))
	}
	if m.heavy && m.roll(2) == 0 {
		body = slices.Repeat(body, 1+m.roll(8))
	}
	text := strings.Join(body, " ")
	if len(textsOf(text)) > 200 {
		text = "1"
	}
	m.put("#define ", head, " ", text)
}

// sequence is a row of tokens.
func (m *maker) sequence(most int) string {
	var l []string
	for range m.roll(most + 1) {
		switch m.roll(8) {
		case 0:
			l = append(l, pick(m.dice, "(", ")", ",", ";", "+", "<=", "=", "{", "}", "7", "x", "defined"))
		case 1:
			l = append(l, m.name())
		case 2, 3:
			l = append(l, pick(m.dice, "M", "N", "O"))
		case 4, 5, 6:
			if m.inCalls < 3 {
				l = append(l, m.invocation())
			}
		default:
			l = append(l, pick(m.dice, "z", "12", ";"))
		}
	}
	return strings.Join(l, " ")
}

func (m *maker) invocation() string {
	m.inCalls++
	defer func() { m.inCalls-- }()
	name := pick(m.dice, "F", "G", "H")
	count := m.calls[name]
	if m.roll(8) == 0 {
		count = m.roll(4)
	}
	var args []string
	for range count {
		args = append(args, m.sequence(2))
	}
	return name + "(" + strings.Join(args, ",") + pick(m.dice, ")", ")", ")", ")", ")", ")", ")", "")
}

// condition is an expression, or something like it.
func (m *maker) condition() string {
	if m.roll(8) == 0 {
		return "1 " + m.sequence(3)
	}
	return m.expression(3)
}

func (m *maker) expression(levels int) string {
	if levels == 0 || m.roll(5) == 0 {
		switch m.roll(6) {
		case 0:
			return strconv.Itoa(m.roll(4))
		case 1:
			return "defined " + m.name()
		case 2:
			return "defined(" + m.name() + ")"
		case 3:
			return m.invocation()
		}
		return m.name()
	}
	switch m.roll(6) {
	case 0:
		return "(" + m.expression(levels-1) + ")"
	case 1:
		return pick(m.dice, "!", "-") + m.expression(levels-1)
	}
	op := pick(m.dice, "||", "&&", "==", "!=", "<", "<=", ">", ">=", "+", "-", "*", "/", "%")
	return m.expression(levels-1) + " " + op + " " + m.expression(levels-1)
}

// longProject is a project whose lines take about MaxWork steps, or are about MaxDepth deep.
func longProject(d *dice) project {
	m := maker{dice: d, names: []string{"A", "B", "C", "D"}, macros: []string{"D2", "P", "Q"}, calls: map[string]int{}}
	m.put("#define D2(x) x x")
	m.put("#define D4(x) x x x x")
	m.put("#define D8(x) D2(D4(x))")
	for _, name := range []string{"P", "Q", "R"} {
		m.put("#if ", m.expression(2))
		m.put("#define ", name, " ", strings.Repeat("p ", m.roll(4)))
		m.put("#elif ", m.expression(2))
		m.put("#define ", name, " ", strings.Repeat("q ", m.roll(8)), pick(d, "A", "B"))
		m.put("#elif ", m.expression(2))
		m.put("#define ", name, "(x) ", strings.Repeat("x ", m.roll(4)))
		m.put("#endif")
	}
	for k := range 18 {
		if m.roll(6) == 0 {
			m.put("#ifdef ", pick(d, m.names...))
			m.put("#define T", strconv.Itoa(k), " ", pick(d, "", "A", "C"))
			m.put("#else")
		} else {
			m.put("#if 1")
		}
		m.put("#define T", strconv.Itoa(k), " T", strconv.Itoa(k+1))
		m.put("#endif")
	}
	for range 3 {
		m.put(pick(d, "", "", "", "#if 0 * "), m.bigLine())
		if strings.HasPrefix(m.lines[len(m.lines)-1], "#") {
			m.put("yes", "\n#endif")
		}
	}
	return project{[]api.File{{Name: "main", Text: strings.Join(m.lines, "\n")}}, m.names}
}

func (m *maker) bigLine() string {
	var l []string
	for steps := 0; steps < 3000 && len(textsOf(strings.Join(l, " "))) < 200; {
		text, factor := pick(m.dice, "A B", "P", "Q", "R", "P Q", "R(A)", "T2 B", "P Q(C) R", "D"), 1
		for range m.roll(4) {
			by := pick(m.dice, 2, 4, 8)
			factor *= by
			text = "D" + strconv.Itoa(by) + "(" + text + ")"
		}
		steps += 8 * factor
		l = append(l, text)
	}
	return strings.Join(l, " ")
}
