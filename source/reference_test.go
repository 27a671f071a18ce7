package source_test

import (
	"cmp"
	"regexp"
	"slices"
	"strconv"
	"strings"

	"motley/api"
)

// The reference is the chapter written out for one configuration, as directly as can be. It takes files that Check
// accepts.

// word is a token as the reference has it.
type word struct {
	kind       uint8
	text       string
	path       []int
	file, line int
}

// fault is a diagnostic as the reference has it.
type fault struct {
	code       api.Code
	path       []int
	file, line int
}

type definition struct {
	number int
	call   bool
	params []string
	body   []string
}

// reference is the work on a configuration, and its results.
type reference struct {
	files  []api.File
	table  map[string]definition
	words  []word
	faults []fault
	active map[[2]int]bool
	steps  int
	most   int // steps of a line
}

func refer(files []api.File, names []string, c uint32) *reference {
	r := &reference{files: files, table: map[string]definition{}, active: map[[2]int]bool{}}
	for i, name := range names {
		if c>>i&1 == 1 {
			r.table[name] = definition{body: []string{"1"}}
		}
	}
	r.file(0, nil)
	slices.SortStableFunc(r.words, func(a, b word) int { return slices.Compare(a.path, b.path) })
	slices.SortStableFunc(r.faults, func(a, b fault) int {
		return cmp.Or(slices.Compare(a.path, b.path), cmp.Compare(a.code, b.code))
	})
	return r
}

func linesOf(text string) []string {
	l := strings.Split(text, "\n")
	if l[len(l)-1] == "" {
		l = l[:len(l)-1]
	}
	return l
}

var tokenPattern = regexp.MustCompile(`//.*|[A-Za-z0-9_]+|<=|>=|==|!=|&&|\|\||[-+*/%<>=!(){},;:]`)

func textsOf(line string) []string {
	var l []string
	for _, s := range tokenPattern.FindAllString(line, -1) {
		if !strings.HasPrefix(s, "//") {
			l = append(l, s)
		}
	}
	return l
}

func kindOf(text string) uint8 {
	switch {
	case text[0] >= '0' && text[0] <= '9':
		return api.TokNumber
	case regexp.MustCompile(`^\w`).MatchString(text):
		return api.TokName
	}
	return api.TokSign
}

var (
	directivePattern = regexp.MustCompile(`^[ \t]*#[ \t]*([A-Za-z]+)(.*)$`)
	callPattern      = regexp.MustCompile(`^[ \t]*(\w+)\(([^)]*)\)(.*)$`)
	plainPattern     = regexp.MustCompile(`^[ \t]*(\w+)(.*)$`)
	includePattern   = regexp.MustCompile(`"([^"]*)"`)
)

// numberOf is the number of the definition in a line.
func (r *reference) numberOf(file, line int) int {
	n := 0
	for k, f := range r.files[:file+1] {
		for i, s := range linesOf(f.Text) {
			if m := directivePattern.FindStringSubmatch(s); m != nil && m[1] == "define" && (k < file || i < line) {
				n++
			}
		}
	}
	return n
}

// group is an open conditional: whether it is active, whether a group was chosen before, and whether this one is.
type group struct{ around, before, chosen bool }

func (r *reference) file(k int, path []int) {
	var open []group
	active := func(upTo int) bool {
		for _, g := range open[:upTo] {
			if !g.chosen {
				return false
			}
		}
		return true
	}
	for i, text := range linesOf(r.files[k].Text) {
		at := word{path: append(slices.Clone(path), i+1), file: k, line: i + 1}
		m := directivePattern.FindStringSubmatch(text)
		depth := len(open)
		if m != nil && (m[1] == "elif" || m[1] == "else" || m[1] == "endif") {
			depth--
		}
		on := active(depth)
		r.active[[2]int{k, i + 1}] = r.active[[2]int{k, i + 1}] || on
		if m == nil {
			if on {
				words, _ := r.expandLine(textsOf(text), at)
				r.words = append(r.words, words...)
			}
			continue
		}
		rest := textsOf(m[2])
		switch m[1] {
		case "if":
			chosen := on && r.value(rest, at) != 0
			open = append(open, group{on, chosen, chosen})
		case "ifdef", "ifndef":
			_, is := r.table[rest[0]]
			chosen := on && is == (m[1] == "ifdef")
			open = append(open, group{on, chosen, chosen})
		case "elif":
			g := &open[depth]
			g.chosen = on && !g.before && r.value(rest, at) != 0
			g.before = g.before || g.chosen
		case "else":
			g := &open[depth]
			g.chosen = on && !g.before
		case "endif":
			open = open[:depth]
		default:
			if on {
				r.directive(m[1], m[2], at)
			}
		}
	}
}

func (r *reference) directive(name, rest string, at word) {
	switch name {
	case "define":
		d := definition{number: r.numberOf(at.file, at.line)}
		m := callPattern.FindStringSubmatch(rest)
		if m != nil {
			d.call, d.body = true, textsOf(m[3])
			for _, s := range textsOf(m[2]) {
				if s != "," {
					d.params = append(d.params, s)
				}
			}
			r.table[m[1]] = d
			return
		}
		m = plainPattern.FindStringSubmatch(rest)
		d.body = textsOf(m[2])
		r.table[m[1]] = d
	case "undef":
		delete(r.table, textsOf(rest)[0])
	case "include":
		name := includePattern.FindStringSubmatch(rest)[1]
		r.file(slices.IndexFunc(r.files, func(f api.File) bool { return f.Name == name }), at.path)
	case "error":
		r.faults = append(r.faults, fault{api.CodeError, at.path, at.file, at.line})
	}
}

// wordsOf gives texts their paths: that of a line or body, and the index.
func wordsOf(texts []string, at word) []word {
	var l []word
	for i, s := range texts {
		l = append(l, word{kindOf(s), s, append(slices.Clone(at.path), i), at.file, at.line})
	}
	return l
}

type tooMany struct{}

// expandLine returns the tokens of a line, and whether it is short enough.
func (r *reference) expandLine(texts []string, at word) ([]word, bool) {
	return r.expandWords(wordsOf(texts, at), at)
}

func (r *reference) expandWords(l []word, at word) (out []word, short bool) {
	faults := len(r.faults)
	r.steps = 0
	defer func() {
		r.most = max(r.most, r.steps)
		switch x := recover(); x {
		case nil:
		case tooMany{}:
			r.faults = append(r.faults[:faults], fault{api.CodeLong, at.path, at.file, at.line})
			out, short = nil, false
		default:
			panic(x)
		}
	}()
	return r.expand(l, 0, nil, nil), true
}

func (r *reference) step() {
	if r.steps++; r.steps > api.MaxWork {
		panic(tooMany{})
	}
}

func (r *reference) expand(l []word, depth int, hidden []string, args map[string][]word) []word {
	var out []word
	for i := 0; i < len(l); {
		w := l[i]
		i++
		r.step()
		if arg, is := args[w.text]; is {
			for _, a := range arg {
				r.step()
				a.path = slices.Concat(w.path, a.path)
				out = append(out, a)
			}
			continue
		}
		d, is := r.table[w.text]
		if !is || slices.Contains(hidden, w.text) || d.call && (i == len(l) || l[i].text != "(") {
			out = append(out, w)
			continue
		}
		if depth == api.MaxDepth {
			r.faults = append(r.faults, fault{api.CodeDeep, w.path, w.file, w.line})
			out = append(out, w)
			continue
		}
		inner := map[string][]word{}
		if d.call {
			pieces, next := split(l, i)
			if len(d.params) == 0 && len(pieces) == 1 && len(pieces[0]) == 0 {
				pieces = nil
			}
			if next < 0 || len(pieces) != len(d.params) {
				r.faults = append(r.faults, fault{api.CodeCall, w.path, w.file, w.line})
				out = append(out, w)
				continue
			}
			i = next
			for k, piece := range pieces {
				inner[d.params[k]] = r.expand(piece, depth+1, hidden, args)
			}
		}
		body := wordsOf(d.body, word{path: append(slices.Clone(w.path), d.number), file: w.file, line: w.line})
		out = append(out, r.expand(body, depth+1, append(slices.Clone(hidden), w.text), inner)...)
	}
	return out
}

// split divides what is between the ( at an index and its ) ; the next index is -1 if there is no ) .
func split(l []word, at int) (pieces [][]word, next int) {
	open := 0
	var piece []word
	for i := at; i < len(l); i++ {
		switch l[i].text {
		case "(":
			open++
			if open == 1 {
				continue
			}
		case ")":
			open--
			if open == 0 {
				return append(pieces, piece), i + 1
			}
		case ",":
			if open == 1 {
				pieces = append(pieces, piece)
				piece = nil
				continue
			}
		}
		piece = append(piece, l[i])
	}
	return nil, -1
}

// result is what valueOf returns.
type result struct {
	value int64
	code  api.Code // 0 if there is a value
}

// valueOf returns the value of an expression, or the code that it has instead.
func (r *reference) valueOf(texts []string, at word) result {
	words := wordsOf(texts, at)
	for i := 0; i < len(words); i++ {
		name, length := "", 0
		is := func(k int, text string) bool { return k < len(words) && words[k].text == text }
		isName := func(k int) bool { return k < len(words) && words[k].kind == api.TokName }
		switch {
		case !is(i, "defined"):
		case isName(i + 1):
			name, length = words[i+1].text, 1
		case is(i+1, "(") && isName(i+2) && is(i+3, ")"):
			name, length = words[i+2].text, 3
		}
		if length > 0 {
			words[i].kind, words[i].text = api.TokNumber, "0"
			if _, is := r.table[name]; is {
				words[i].text = "1"
			}
			words = slices.Delete(words, i+1, i+1+length)
		}
	}
	out, short := r.expandWords(words, at)
	if !short {
		return result{code: api.CodeLong}
	}
	g := grammar{l: out}
	x, ok := g.whole()
	if !ok {
		return result{code: api.CodeExpr}
	}
	return result{value: x}
}

func (r *reference) value(texts []string, at word) int64 {
	x := r.valueOf(texts, at)
	if x.code == api.CodeExpr {
		r.faults = append(r.faults, fault{x.code, at.path, at.file, at.line})
	}
	return x.value
}

// grammar is the one of expressions, rule by rule.
type grammar struct {
	l    []word
	nest int
}

func (g *grammar) whole() (x int64, ok bool) {
	defer func() {
		if recover() != nil {
			x, ok = 0, false
		}
	}()
	x = g.or()
	return x, len(g.l) == 0
}

func (g *grammar) is(texts ...string) string {
	if len(g.l) > 0 && slices.Contains(texts, g.l[0].text) {
		return g.take().text
	}
	return ""
}

func (g *grammar) take() word {
	w := g.l[0]
	g.l = g.l[1:]
	return w
}

func bit(is bool) int64 {
	if is {
		return 1
	}
	return 0
}

func (g *grammar) or() int64 {
	x := g.and()
	for g.is("||") != "" {
		y := g.and()
		x = bit(x != 0 || y != 0)
	}
	return x
}

func (g *grammar) and() int64 {
	x := g.cmp()
	for g.is("&&") != "" {
		y := g.cmp()
		x = bit(x != 0 && y != 0)
	}
	return x
}

func (g *grammar) cmp() int64 {
	x := g.sum()
	op := g.is("==", "!=", "<", "<=", ">", ">=")
	if op == "" {
		return x
	}
	y := g.sum()
	return bit(map[string]bool{
		"==": x == y, "!=": x != y, "<": x < y, "<=": x <= y, ">": x > y, ">=": x >= y,
	}[op])
}

func (g *grammar) sum() int64 {
	x := g.prod()
	for {
		switch g.is("+", "-") {
		case "+":
			x += g.prod()
		case "-":
			x -= g.prod()
		default:
			return x
		}
	}
}

func (g *grammar) prod() int64 {
	x := g.unary()
	for {
		op := g.is("*", "/", "%")
		if op == "" {
			return x
		}
		y := g.unary()
		switch {
		case op == "*":
			x *= y
		case y == 0:
			x = 0
		case op == "/":
			x /= y
		default:
			x %= y
		}
	}
}

func (g *grammar) unary() int64 {
	op := g.is("!", "-", "(")
	if op == "" {
		switch w := g.take(); w.kind {
		case api.TokNumber:
			x, _ := strconv.ParseInt(w.text, 10, 64)
			return x
		case api.TokName:
			return 0
		}
		panic("no operand")
	}
	if g.nest++; g.nest > api.MaxNest {
		panic("too deep")
	}
	defer func() { g.nest-- }()
	if op == "(" {
		x := g.or()
		if g.is(")") == "" {
			panic("no )")
		}
		return x
	}
	x := g.unary()
	if op == "-" {
		return -x
	}
	return bit(x == 0)
}
