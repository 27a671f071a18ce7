package bench_test

import (
	"math/bits"
	"slices"
	"strconv"
	"strings"

	"motley/api"
	"motley/check"
	"motley/decide"
	"motley/diagram"
	"motley/evolve"
	"motley/formula"
	"motley/model"
	"motley/run"
	"motley/sample"
	"motley/source"
	"motley/syntax"
)

// plain is a workspace that does what the chapter says: it goes through the list of errors number by number, and
// through the configurations one by one.
type plain struct {
	docs     map[string]string
	sets     map[string]string
	choices  []string // a sign, a blank, and the name
	versions map[string]map[string]string
	fuel     int64

	line    string // the command that is done, with all that it needs
	words   []string
	m       api.Model
	names   []string
	set     diagram.D
	c       uint32
	in      []int64
	session *decide.Session
}

func newPlain() *plain {
	return &plain{docs: map[string]string{}, sets: map[string]string{}, versions: map[string]map[string]string{}, fuel: 1000}
}

// arguments are those of each command: a document, a Version, a name of a set to be made, a number, a Set, a
// configuration, a feature, an attribute, any text; * is any number of these.
var arguments = map[string]string{
	"put": "dt*", "drop": "d", "show": "d", "docs": "", "set": "mtt*", "fuel": "n", "model": "", "rules": "", "count": "S",
	"list": "S", "least": "S", "why": "S", "+": "f", "-": "f", "undo": "", "session": "", "complete": "a", "sample": "n",
	"bound": "n", "derive": "c", "diags": "S", "good": "S", "run": "cn*", "runs": "Sn*", "causes": "Sn*", "keep": "d",
	"versions": "", "change": "V", "differ": "VSn*", "lift": "Sc", "trim": "S",
}

// kinds are the letters of the arguments of the command, one for each word that it has; false: it has other ones.
func (p *plain) kinds() (string, bool) {
	letters, known := arguments[p.words[0]]
	count := len(p.words) - 1
	if body, more := strings.CutSuffix(letters, "*"); more {
		letters = body[:len(body)-1] + strings.Repeat(body[len(body)-1:], max(0, count-len(body)+1))
	}
	return letters, known && len(letters) == count
}

// args yields the arguments of one kind.
func (p *plain) args(kind rune) []string {
	var l []string
	letters, _ := p.kinds()
	for k, letter := range letters {
		if letter == kind {
			l = append(l, p.words[k+1])
		}
	}
	return l
}

func (p *plain) is(commands ...string) bool { return slices.Contains(commands, p.words[0]) }

func (p *plain) do(line string) string {
	p.line, p.words, p.in, p.session = line, nil, nil, nil
	for _, word := range strings.Split(line, " ") {
		if word != "" {
			p.words = append(p.words, word)
		}
	}
	if len(p.words) == 0 || p.words[0][0] == '#' {
		return ""
	}
	for _, step := range []func() api.Errno{p.form, p.name, p.there, p.model, p.sets5, p.choices6, p.main} {
		if e := step(); e != api.OK {
			return text(e.Error())
		}
	}
	lines, e := p.answer()
	if e != api.OK {
		return text(e.Error())
	}
	return text(lines...)
}

// form is the error 1 of the list.
func (p *plain) form() api.Errno {
	if _, right := p.kinds(); !right {
		return api.ErrForm
	}
	for _, word := range p.args('n') {
		x, err := strconv.ParseInt(word, 10, 64)
		if err != nil || word != strconv.FormatInt(x, 10) {
			return api.ErrForm
		}
		p.in = append(p.in, x)
	}
	return api.OK
}

// name is the error 2.
func (p *plain) name() api.Errno {
	const letters = "abcdefghijklmnopqrstuvwxyzABCDEFGHIJKLMNOPQRSTUVWXYZ_"
	for _, word := range slices.Concat(p.args('d'), p.args('V')) {
		if len(word) > 32 || strings.Trim(word, letters+"0123456789.-") != "" {
			return api.ErrName
		}
	}
	for _, word := range p.args('m') {
		if len(word) > 32 || strings.Trim(word, letters+"0123456789") != "" || word[0] <= '9' || word == "all" || word == "valid" {
			return api.ErrName
		}
	}
	if p.is("fuel") && (p.in[0] < 0 || p.in[0] > 1<<20) {
		return api.ErrRange
	}
	return api.OK
}

// behind is what stands behind the first argument.
func (p *plain) behind() string {
	s := p.line
	for _, word := range p.words[:2] {
		_, s, _ = strings.Cut(s, word)
	}
	return s
}

// there is the error 3.
func (p *plain) there() api.Errno {
	switch {
	case p.is("set"):
		if _, _, e := formula.Parse(p.behind()); e != api.OK {
			return api.ErrForm
		}
	case p.is("drop", "show") && p.docs[p.words[1]] == "", p.is("lift") && p.docs["edit"] == "":
		return api.ErrNone
	}
	for _, v := range p.args('V') {
		if p.versions[v] == nil {
			return api.ErrNone
		}
	}
	return api.OK
}

// model is the error 4.
func (p *plain) model() (e api.Errno) {
	if p.is("put", "drop", "show", "docs", "set", "fuel", "keep", "versions") {
		return api.OK
	}
	if p.docs["model"] == "" {
		return api.ErrNone
	}
	p.m, _, e = model.Parse(p.docs["model"])
	p.names = model.Names(p.m)
	return e
}

// sets5 is the error 5.
func (p *plain) sets5() api.Errno {
	for k, letter := range arguments[p.words[0]] {
		var e api.Errno
		switch letter {
		case 'S':
			p.set, e = p.setOf(p.words[k+1])
		case 'c':
			p.c, e = p.configurationOf(p.words[k+1])
		}
		if e != api.OK {
			return e
		}
	}
	return api.OK
}

func (p *plain) setOf(word string) (diagram.D, api.Errno) {
	formulaText, is := p.sets[word]
	switch {
	case word == "all":
		return diagram.True(), api.OK
	case word == "valid":
		return model.Diagram(p.m)
	case !is:
		return diagram.D{}, api.ErrName
	}
	e, _, _ := formula.Parse(formulaText)
	return formula.Diagram(e, p.names)
}

func (p *plain) configurationOf(word string) (c uint32, e api.Errno) {
	var names []string
	if word != "-" {
		names = strings.Split(word, ",")
	}
	for k, name := range names {
		switch {
		case !slices.Contains(p.names, name):
			return 0, api.ErrName
		case slices.Contains(names[:k], name):
			return 0, api.ErrTwice
		}
		c += 1 << slices.Index(p.names, name)
	}
	return c, api.OK
}

// choices6 is the error 6.
func (p *plain) choices6() (e api.Errno) {
	for _, name := range p.args('f') {
		if !slices.Contains(p.names, name) {
			return api.ErrName
		}
	}
	if p.is("+", "-", "undo", "session", "complete") {
		if p.session, _, e = decide.Load(p.m, text(p.choices...)); e != api.OK {
			return e
		}
	}
	if p.is("complete") && p.attribute() < 0 {
		return api.ErrNone
	}
	return api.OK
}

func (p *plain) attribute() int {
	return slices.IndexFunc(p.m.Attributes, func(a api.Attribute) bool { return a.Name == p.words[1] })
}

// main is the error 7.
func (p *plain) main() (e api.Errno) {
	switch {
	case p.is("derive", "diags", "good", "run", "runs", "causes", "differ", "lift", "trim") && p.docs["main"] == "":
		return api.ErrNone
	case p.is("differ") && p.versions[p.words[1]]["main"] == "":
		return api.ErrNone
	case p.is("change") && p.versions[p.words[1]]["model"] == "":
		return api.ErrNone
	case p.is("change"):
		_, _, e = model.Parse(p.versions[p.words[1]]["model"])
	}
	return e
}

// answer is the rest: the lines, or the error 8.
func (p *plain) answer() ([]string, api.Errno) {
	switch {
	case p.is("put", "drop", "show", "docs", "set", "fuel", "keep", "versions"):
		return p.kept(), api.OK
	case p.is("model", "rules", "count", "list", "least", "why", "sample", "bound"):
		return p.modelled()
	case p.is("+", "-", "undo", "session", "complete"):
		return p.decided()
	case p.is("change", "differ", "lift", "trim"):
		return p.compared()
	}
	return p.programmed()
}

func (p *plain) kept() []string {
	switch done := []string{"ok"}; p.words[0] {
	case "put":
		_, line, _ := strings.Cut(p.behind(), " ")
		p.docs[p.words[1]] += line + "\n"
		return done
	case "drop":
		delete(p.docs, p.words[1])
		return done
	case "show":
		return strings.Split(strings.TrimSuffix(p.docs[p.words[1]], "\n"), "\n")
	case "docs":
		return keys(p.docs)
	case "set":
		p.sets[p.words[1]] = p.behind()
		return done
	case "fuel":
		p.fuel = p.in[0]
		return done
	case "keep":
		version := map[string]string{}
		for _, name := range keys(p.docs) {
			version[name] = p.docs[name]
		}
		p.versions[p.words[1]] = version
		return done
	}
	return keys(p.versions)
}

func keys[T any](m map[string]T) []string {
	var l []string
	for name := range m {
		l = append(l, name)
	}
	slices.Sort(l)
	return l
}

// members are the configurations of a set, rising.
func (p *plain) members(d diagram.D) []uint32 {
	var l []uint32
	for c := range uint32(1) << len(p.names) {
		if d.Has(c) {
			l = append(l, c)
		}
	}
	return l
}

// only is the set of a configuration.
func (p *plain) only(c uint32) diagram.D { return diagram.Cube(c, (1<<len(p.names)-1)&^c) }

func (p *plain) count(d diagram.D) string { return strconv.Itoa(len(p.members(d))) }

func (p *plain) smallest(d diagram.D) string {
	return p.shown(slices.MinFunc(p.members(d), func(a, b uint32) int { return bits.OnesCount32(a) - bits.OnesCount32(b) }))
}

func (p *plain) shown(c uint32) string {
	s := ""
	for i, name := range p.names {
		if c>>i%2 == 1 {
			s += "," + name
		}
	}
	return strings.TrimPrefix("-"+s, "-,")
}

func (p *plain) cube(c api.Cube) string {
	s := ""
	for i, name := range p.names {
		if c.On>>i%2 == 1 {
			s += " +" + name
		}
		if c.Off>>i%2 == 1 {
			s += " -" + name
		}
	}
	return strings.TrimPrefix("."+s, ". ")
}

func (p *plain) rule(k int) string {
	s, _ := model.RuleText(p.m, k)
	return strconv.Itoa(k) + " " + s
}

func (p *plain) modelled() (lines []string, e api.Errno) {
	switch p.words[0] {
	case "model":
		return p.analysed(), api.OK
	case "rules":
		for k := 0; ; k++ {
			if _, e := model.RuleText(p.m, k); e != api.OK {
				return lines, api.OK
			}
			lines = append(lines, p.rule(k))
		}
	case "count":
		return []string{p.count(p.set)}, api.OK
	case "list":
		return p.listed()
	case "least":
		if p.set.Empty() {
			return nil, api.ErrNone
		}
		return []string{p.smallest(p.set)}, api.OK
	case "why":
		rules, e := model.Why(p.m, p.set)
		for _, k := range rules {
			lines = append(lines, p.rule(k))
		}
		return lines, e
	case "sample":
		l, e := sample.Extend(p.m, int(p.in[0]), nil)
		for _, c := range l {
			lines = append(lines, p.shown(c))
		}
		return lines, e
	}
	l, e := sample.Bound(p.m, int(p.in[0]))
	for _, c := range l {
		lines = append(lines, p.cube(c))
	}
	return lines, e
}

func (p *plain) listed() (lines []string, e api.Errno) {
	l := p.members(p.set)
	if len(l) > 64 {
		return nil, api.ErrLimit
	}
	for _, c := range l {
		lines = append(lines, p.shown(c))
	}
	return lines, api.OK
}

func (p *plain) analysed() []string {
	rules, _ := model.Rules(p.m)
	lines := []string{"features " + strconv.Itoa(len(p.names)), "rules " + strconv.Itoa(len(rules))}
	a, _ := model.Analyse(p.m)
	valid, _ := model.Diagram(p.m)
	products := p.members(valid)
	if len(products) == 0 {
		return append(lines, "void")
	}
	core, some := products[0], uint32(0)
	for _, c := range products {
		core, some = core&c, some|c
	}
	redundant := "redundant"
	for _, k := range a.Redundant {
		redundant += " " + strconv.Itoa(k)
	}
	return append(lines, "products "+strconv.Itoa(len(products)), "core "+p.shown(core), "dead "+p.shown(^some), "false "+p.shown(a.FalseOptional), redundant)
}

func (p *plain) decided() (lines []string, e api.Errno) {
	switch p.words[0] {
	case "+", "-":
		e = p.session.Decide(slices.Index(p.names, p.words[1]), p.words[0] == "+")
		if e == api.OK {
			p.choices = append(p.choices, p.words[0]+" "+p.words[1])
		}
		return []string{"ok"}, e
	case "undo":
		if len(p.choices) == 0 {
			return nil, api.ErrNone
		}
		last := len(p.choices) - 1
		lines = p.choices[last:]
		p.choices = p.choices[:last:last]
		return lines, api.OK
	case "session":
		words := map[decide.State]string{decide.Free: "free", decide.Chosen: "chosen", decide.Refused: "refused", decide.Forced: "forced", decide.Barred: "barred"}
		for i, name := range p.names {
			state, _ := p.session.State(i)
			lines = append(lines, name+" "+words[state])
		}
		return lines, api.OK
	}
	best, least := uint32(0), int64(1<<62)
	for _, c := range p.members(p.session.Rest()) {
		if cost, _ := model.Cost(p.m, p.attribute(), c); cost < least {
			best, least = c, cost
		}
	}
	return []string{p.shown(best) + " " + strconv.FormatInt(least, 10)}, api.OK
}

// files are those of documents.
func files(docs map[string]string) []api.File {
	l := []api.File{{Name: "main", Text: docs["main"]}}
	for _, name := range keys(docs) {
		if !slices.Contains([]string{"main", "model", "edit"}, name) {
			l = append(l, api.File{Name: name, Text: docs[name]})
		}
	}
	return l
}

func (p *plain) programmed() (lines []string, e api.Errno) {
	if _, _, e := source.Check(files(p.docs), p.names); e != api.OK {
		return nil, e
	}
	switch p.words[0] {
	case "derive":
		l, e := source.Plain(files(p.docs), p.names, p.c)
		if s := source.Text(l); s != "" {
			lines = strings.Split(strings.TrimSuffix(s, "\n"), "\n")
		}
		return lines, e
	case "diags":
		return p.diagnosed(), api.OK
	case "good":
		good := 0
		for _, c := range p.members(p.set) {
			if p.program(p.docs, c).good {
				good++
			}
		}
		return []string{strconv.Itoa(good)}, api.OK
	case "run":
		b, _ := run.Build(files(p.docs), p.names, diagram.True())
		o, e := run.Plain(b.Tree, p.c, p.in, int(p.fuel))
		return []string{shownOutcome(o)}, e
	case "runs":
		return p.ran(), api.OK
	}
	return p.caused(), api.OK
}

func shownOutcome(o run.Outcome) string {
	words := map[uint8]string{api.Done: "done", api.Rejected: "rejected", api.Zero: "zero", api.Failed: "failed", api.Fuel: "fuel", api.Deep: "deep"}
	s := words[o.Status] + " " + strconv.Itoa(o.Steps)
	for _, x := range o.Out {
		s += " " + strconv.FormatInt(x, 10)
	}
	return s
}

// diagnosed collects the diagnostics of the configurations one by one, and looks for each in the family.
func (p *plain) diagnosed() (lines []string) {
	all := files(p.docs)
	b, _ := run.Build(all, p.names, p.set)
	at := func(tok int) string {
		switch {
		case tok < 0:
			return "-"
		case tok == len(b.List.Tokens):
			return "end"
		}
		return all[b.List.Tokens[tok].File].Name + ":" + strconv.Itoa(b.List.Tokens[tok].Line)
	}
	line := func(code api.Code, place string, has func(c uint32) bool) {
		d := diagram.False()
		for _, c := range p.members(p.set) {
			if has(c) {
				d = d.Or(p.only(c))
			}
		}
		lines = append(lines, strconv.Itoa(int(code))+" "+place+" "+p.smallest(d))
	}
	for _, d := range b.List.Diags {
		line(d.Code, all[d.File].Name+":"+strconv.Itoa(d.Line), func(c uint32) bool {
			l, _ := source.Plain(all, p.names, c)
			return slices.ContainsFunc(l.Diags, func(x source.Diag) bool { return x.Code == d.Code && slices.Equal(x.Path, d.Path) })
		})
	}
	for _, d := range b.Tree.Diags {
		line(d.Code, at(d.Tok), func(c uint32) bool {
			t := syntax.Plain(b.List, c)
			return len(t.Diags) == 1 && t.Diags[0].Code == d.Code && t.Diags[0].Tok == d.Tok
		})
	}
	for _, f := range check.Problems(b.Facts) {
		line(f.Code, at(f.Tok), func(c uint32) bool {
			l, _ := check.Plain(b.Tree, c)
			return slices.Contains(l, check.Fact{Kind: api.FactError, Tok: f.Tok, Other: int(f.Code), Cond: diagram.True()})
		})
	}
	return lines
}

// product is the program of one configuration, made by the plain tools alone.
type product struct {
	tokens, tree string
	good         bool
	outcome      run.Outcome
}

func (p *plain) program(docs map[string]string, c uint32) product {
	l, _ := source.Plain(files(docs), p.names, c)
	var x product
	for _, t := range l.Tokens {
		x.tokens += t.Text + " "
	}
	t := syntax.Plain(l, c)
	x.tree, _ = syntax.Print(t, c)
	if len(t.Diags) > 0 {
		x.tree = "none"
	}
	facts, _ := check.Plain(t, c)
	x.good = len(l.Diags)+len(t.Diags)+len(check.Problems(facts)) == 0
	x.outcome, _ = run.Plain(t, c, p.in, int(p.fuel))
	return x
}

func (p *plain) ran() (lines []string) {
	b, _ := run.Build(files(p.docs), p.names, p.set)
	var outcomes []run.Outcome
	var where []diagram.D
	for _, c := range p.members(p.set) {
		o, _ := run.Plain(b.Tree, c, p.in, int(p.fuel))
		k := slices.IndexFunc(outcomes, func(x run.Outcome) bool { return x.Tok == o.Tok && shownOutcome(x) == shownOutcome(o) })
		if k < 0 {
			k = len(outcomes)
			outcomes, where = append(outcomes, o), append(where, diagram.False())
		}
		where[k] = where[k].Or(p.only(c))
	}
	for k, o := range outcomes {
		lines = append(lines, p.count(where[k])+" "+p.smallest(where[k])+" "+shownOutcome(o))
	}
	return lines
}

// caused goes through all cubes, the short ones first.
func (p *plain) caused() (lines []string) {
	n := len(p.names)
	done := map[uint32]bool{}
	for _, c := range p.members(p.set) {
		done[c] = p.program(p.docs, c).outcome.Status == api.Done
	}
	var causes []api.Cube
	for size := range n + 1 {
		for on := range uint32(1) << n {
			for off := range uint32(1) << n {
				if on&off != 0 || bits.OnesCount32(on|off) != size {
					continue
				}
				x, any, bad := api.Cube{On: on, Off: off}, false, true
				for c, ended := range done {
					if c&on == on && c&off == 0 {
						any, bad = true, bad && !ended
					}
				}
				larger := slices.ContainsFunc(causes, func(y api.Cube) bool { return on&y.On == y.On && off&y.Off == y.Off })
				if any && bad && !larger {
					causes = append(causes, x)
					lines = append(lines, p.cube(x))
				}
			}
		}
	}
	return lines
}

func (p *plain) compared() (lines []string, e api.Errno) {
	var changed []api.File
	switch p.words[0] {
	case "change":
		old, _, _ := model.Parse(p.versions[p.words[1]]["model"])
		c, e := evolve.Compare(old, p.m)
		line := [...]string{"", "refactoring", "generalization", "specialization", "arbitrary"}[c.Kind]
		for _, x := range []uint64{c.Before, c.After, c.Both} {
			line += " " + strconv.FormatUint(x, 10)
		}
		return []string{line}, e
	case "differ":
		return p.differing()
	case "lift":
		changed, e = evolve.Lift(files(p.docs), p.names, p.set, p.c, p.docs["edit"])
	default:
		changed, e = evolve.Trim(files(p.docs), p.names, p.set)
	}
	for _, f := range changed {
		p.docs[f.Name] = f.Text
	}
	return []string{"ok"}, e
}

func (p *plain) differing() ([]string, api.Errno) {
	docs := p.versions[p.words[1]]
	for _, l := range [][]api.File{files(docs), files(p.docs)} {
		if _, _, e := source.Check(l, p.names); e != api.OK {
			return nil, e
		}
	}
	var tokens, trees, good, runs int
	add := func(n *int, differ bool) {
		if differ {
			*n++
		}
	}
	for _, c := range p.members(p.set) {
		a, b := p.program(docs, c), p.program(p.docs, c)
		add(&tokens, a.tokens != b.tokens)
		add(&trees, a.tree != b.tree)
		add(&good, a.good != b.good)
		add(&runs, a.outcome.Status != b.outcome.Status || !slices.Equal(a.outcome.Out, b.outcome.Out))
	}
	return []string{"tokens " + strconv.Itoa(tokens), "trees " + strconv.Itoa(trees), "good " + strconv.Itoa(good), "runs " + strconv.Itoa(runs)}, api.OK
}
