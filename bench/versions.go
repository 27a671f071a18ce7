package bench

import (
	"strconv"

	"motley/api"
	"motley/evolve"
)

// changeWords are the words for the kinds of changes.
var changeWords = [...]string{
	evolve.Refactoring:    "refactoring",
	evolve.Generalization: "generalization",
	evolve.Specialization: "specialization",
	evolve.Arbitrary:      "arbitrary",
}

// keep makes a version of the documents as they are.
func (w *workspace) keep(q *request) {
	name := documentName(q.exactly(1)[0])
	w.versions[name] = w.copied()
	q.ok()
}

func (w *workspace) listVersions(q *request) {
	q.exactly(0)
	for _, name := range sortedNames(w.versions) {
		q.write(name)
	}
}

// version is the one with the name that a word is.
func (w *workspace) version(word string) documents {
	v, is := w.versions[documentName(word)]
	if !is {
		fail(api.ErrNone)
	}
	return v
}

// change tells what leads from the model of a version to that of the workspace.
func (w *workspace) change(q *request) {
	old := w.version(q.exactly(1)[0])
	f := w.family()
	c := got(evolve.Compare(old.model(), f.Model))
	words := []string{changeWords[c.Kind]}
	for _, x := range [...]uint64{c.Before, c.After, c.Both} {
		words = append(words, strconv.FormatUint(x, 10))
	}
	q.write(words...)
}

// differ tells in how many configurations the sources of a version are not those of the workspace.
func (w *workspace) differ(q *request) {
	args := q.atLeast(2)
	in := numbers(args[2:])
	old := w.version(args[0])
	f := w.family()
	set := f.set(args[1])
	files := w.files()
	r := got(evolve.Sources(old.files(), files, f.names, set, in, w.fuel))
	q.write("tokens", f.sizeText(r.Tokens))
	q.write("trees", f.sizeText(r.Trees))
	q.write("good", f.sizeText(r.Good))
	q.write("runs", f.sizeText(r.Runs))
}

// lift brings an edited product back into the sources.
func (w *workspace) lift(q *request) {
	args := q.exactly(2)
	w.mustHave(editName)
	f := w.family()
	set, c := f.set(args[0]), f.configuration(args[1])
	w.rewrite(got(evolve.Lift(w.files(), f.names, set, c, w.text(editName))))
	q.ok()
}

func (w *workspace) trim(q *request) {
	args := q.exactly(1)
	f := w.family()
	set := f.set(args[0])
	w.rewrite(got(evolve.Trim(w.files(), f.names, set)))
	q.ok()
}
