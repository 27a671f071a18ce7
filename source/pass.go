package source

import (
	"iter"
	"slices"

	"motley/api"
	"motley/diagram"
)

// pass is the way through the lines of the main file and of those that it includes, in all configurations at once.
type pass struct {
	program
	table  table
	doers  map[string]doer
	found  List // in no order
	active [][]diagram.D
}

// doer does what a line says.
type doer func(v *visit, l line)

// doers are by the word of the line.
func doers() map[string]doer {
	return map[string]doer{
		textWord:    (*visit).text,
		ifWord:      (*visit).ifValue,
		ifdefWord:   (*visit).ifdef,
		ifndefWord:  (*visit).ifndef,
		elifWord:    (*visit).elif,
		elseWord:    (*visit).others,
		endifWord:   (*visit).endif,
		defineWord:  (*visit).define,
		undefWord:   (*visit).undef,
		includeWord: (*visit).include,
		errorWord:   (*visit).failure,
	}
}

// process goes through the program for the configurations in within. Selected returns those in which a feature is
// selected.
func (p program) process(within diagram.D, selected func(i int) diagram.D) *pass {
	w := &pass{program: p, table: newTable(p.names, selected), doers: doers()}
	for _, lines := range p.files {
		w.active = append(w.active, make([]diagram.D, len(lines)))
	}
	w.visit(0, nil, within)
	return w
}

// list is the canonical list of what was found.
func (w *pass) list() List { return canonical(w.found) }

// place is where a line is: its file, its number, and its path.
type place struct {
	file, number int
	path         []int
}

// lines yields the lines of a file that is included at a path, each with its place.
func (p program) lines(file int, path []int) iter.Seq2[place, line] {
	return func(yield func(place, line) bool) {
		for i, l := range p.files[file] {
			if !yield(place{file, i + 1, join(path, i+1)}, l) {
				return
			}
		}
	}
}

// join returns the path that continues a path.
func join(path []int, more ...int) []int { return slices.Concat(path, more) }

// visit is the way through the lines of a file that is included once.
type visit struct {
	*pass
	place
	act  diagram.D     // where lines are active here
	open []conditional // the last one is the innermost
}

// conditional is one that is open.
type conditional struct {
	around diagram.D // where it is active
	left   diagram.D // where, of these, none of its groups was chosen so far
}

// visit goes through the lines of a file, which is included at a path in some configurations.
func (w *pass) visit(file int, path []int, d diagram.D) {
	v := &visit{pass: w, act: d}
	for at, l := range w.lines(file, path) {
		v.place = at
		v.line(l)
	}
}

func (v *visit) line(l line) {
	active := v.act
	if l.continues() {
		active = v.inner().around
	}
	seen := &v.active[v.file][v.number-1]
	*seen = seen.Or(active)
	if l.begins() || l.continues() || !active.Empty() {
		v.doers[l.word](v, l)
	}
}

// inner is the innermost conditional that is open.
func (v *visit) inner() *conditional { return &v.open[len(v.open)-1] }

func (v *visit) ifValue(l line) { v.begin(v.value(l.tokens, v.act)) }

func (v *visit) ifdef(l line) { v.begin(v.act.And(v.table.has(l.name))) }

func (v *visit) ifndef(l line) { v.begin(without(v.act, v.table.has(l.name))) }

// begin opens a conditional whose first group is chosen in some configurations.
func (v *visit) begin(chosen diagram.D) {
	v.open = append(v.open, conditional{around: v.act, left: v.act})
	v.choose(chosen)
}

// choose goes on with a group that is chosen in some configurations.
func (v *visit) choose(chosen diagram.D) {
	v.inner().left = without(v.inner().left, chosen)
	v.act = chosen
}

func (v *visit) elif(l line) { v.choose(v.value(l.tokens, v.inner().left)) }

func (v *visit) others(line) { v.choose(v.inner().left) }

func (v *visit) endif(line) {
	v.act = v.inner().around
	v.open = v.open[:len(v.open)-1]
}

func (v *visit) define(l line) { v.table.define(&l.macro, v.act) }

func (v *visit) undef(l line) { v.table.remove(l.name, v.act) }

func (v *visit) include(l line) { v.pass.visit(l.file, v.path, v.act) }

func (v *visit) failure(line) { v.report(api.CodeError, v.act) }

func (v *visit) text(l line) { v.found.Tokens, _ = v.expand(v.found.Tokens, l.tokens, v.act) }

// report adds a diagnostic of the line itself.
func (v *visit) report(code api.Code, d diagram.D) {
	if !d.Empty() {
		v.found.Diags = append(v.found.Diags, v.diag(code, v.path, d))
	}
}

// diag is a diagnostic of a line, at some path.
func (p place) diag(code api.Code, path []int, d diagram.D) Diag {
	return Diag{Code: code, Path: slices.Clone(path), File: p.file, Line: p.number, Cond: d}
}

// Active returns for each line of each file the configurations in which it is active at least once.
func Active(files []api.File, names []string, within diagram.D) ([][]diagram.D, api.Errno) {
	w, e := family(files, names, within)
	if e != api.OK {
		return nil, e
	}
	return w.active, api.OK
}

// Mentions returns the features whose names are in lines that they may change.
func Mentions(files []api.File, names []string) (uint32, api.Errno) {
	p, _, e := read(files, names)
	if e != api.OK {
		return 0, e
	}
	features := map[string]uint32{}
	for i, name := range names {
		features[name] = 1 << i
	}
	set := uint32(0)
	for _, lines := range p.files {
		for _, l := range lines {
			for _, name := range l.mentions() {
				set |= features[name]
			}
		}
	}
	return set, api.OK
}

// mentions are the texts in a line that may be names of features. (A file that is included may have such a name, too.)
func (l line) mentions() []string {
	var texts []string
	if l.word == ifdefWord || l.word == ifndefWord {
		texts = append(texts, l.name)
	}
	for _, t := range slices.Concat(l.tokens, l.macro.body) {
		texts = append(texts, t.text)
	}
	return texts
}
