package bench

import (
	"strconv"

	"motley/api"
	"motley/check"
	"motley/diagram"
	"motley/evolve"
	"motley/run"
	"motley/source"
	"motley/syntax"
)

// statusWords are the words for the statuses of runs.
var statusWords = [...]string{
	api.Done:     "done",
	api.Rejected: "rejected",
	api.Zero:     "zero",
	api.Failed:   "failed",
	api.Fuel:     "fuel",
	api.Deep:     "deep",
}

func (w *workspace) derive(q *request) {
	args := q.exactly(1)
	f := w.family()
	c := f.configuration(args[0])
	q.copy(got(evolve.Derive(w.files(), f.names, c)))
}

// diagnose tells all diagnostics and errors.
func (w *workspace) diagnose(q *request) {
	args := q.exactly(1)
	f := w.family()
	set := f.set(args[0])
	files := w.files()
	b := got(run.Build(files, f.names, set))
	write := func(code api.Code, place string, cond diagram.D) {
		q.write(strconv.Itoa(int(code)), place, f.smallest(cond))
	}
	for _, d := range b.List.Diags {
		write(d.Code, place(files, d.File, d.Line), d.Cond)
	}
	for _, d := range b.Tree.Diags {
		write(d.Code, placeOf(files, b.List.Tokens, d.Tok), d.Cond)
	}
	for _, p := range check.Problems(b.Facts) {
		write(p.Code, placeOf(files, b.List.Tokens, p.Tok), p.Cond)
	}
}

// place is how a line of a file is written.
func place(files []api.File, file, line int) string {
	return files[file].Name + ":" + strconv.Itoa(line)
}

// placeOf is how the place of a token is written, of which the number is known.
func placeOf(files []api.File, tokens []source.Token, tok int) string {
	switch tok {
	case -1:
		return "-"
	case len(tokens):
		return "end"
	}
	return place(files, tokens[tok].File, tokens[tok].Line)
}

func (w *workspace) good(q *request) {
	args := q.exactly(1)
	f := w.family()
	set := f.set(args[0])
	q.write(f.sizeText(got(run.Build(w.files(), f.names, set)).Good))
}

// run tells how the program of a configuration ends.
func (w *workspace) run(q *request) {
	args := q.atLeast(1)
	in := numbers(args[1:])
	f := w.family()
	c := f.configuration(args[0])
	tree := syntax.Plain(got(source.Plain(w.files(), f.names, c)), c)
	q.write(outcome(got(run.Plain(tree, c, in, w.fuel)))...)
}

// outcome are the words for how a run ended.
func outcome(o run.Outcome) []string {
	words := []string{statusWords[o.Status], strconv.Itoa(o.Steps)}
	for _, x := range o.Out {
		words = append(words, strconv.FormatInt(x, 10))
	}
	return words
}

// runs tells how the programs of all configurations end.
func (w *workspace) runs(q *request) {
	args := q.atLeast(1)
	in := numbers(args[1:])
	f := w.family()
	set := f.set(args[0])
	for _, p := range w.parts(f, set, in) {
		words := []string{f.sizeText(p.Cond), f.smallest(p.Cond)}
		q.write(append(words, outcome(p.Outcome)...)...)
	}
}

// parts are those of the family run.
func (w *workspace) parts(f family, within diagram.D, in []int64) []run.Part {
	tree := syntax.Family(got(source.Family(w.files(), f.names, within)), within)
	return got(run.Family(tree, within, in, w.fuel))
}

// causes tells why programs do not end as they should.
func (w *workspace) causes(q *request) {
	args := q.atLeast(1)
	in := numbers(args[1:])
	f := w.family()
	set := f.set(args[0])
	bad := set.And(run.Where(w.parts(f, set, in), api.Done).Not())
	for _, c := range got(run.Causes(bad, set)) {
		q.write(f.cube(c))
	}
}
