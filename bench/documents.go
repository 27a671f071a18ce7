package bench

import (
	"maps"
	"slices"
	"strings"

	"motley/api"
	"motley/model"
)

// Documents of which the workspace makes more than a file.
const (
	modelName = "model"
	mainName  = "main"
	editName  = "edit"
)

// documents are the lines of each document, by its name.
type documents map[string][]string

// sortedNames are the names of what a map has, bytewise.
func sortedNames[T any](m map[string]T) []string { return slices.Sorted(maps.Keys(m)) }

// mustHave fails if a document is not there.
func (d documents) mustHave(name string) {
	if _, is := d[name]; !is {
		fail(api.ErrNone)
	}
}

// text is that of a document that is to be there.
func (d documents) text(name string) string {
	d.mustHave(name)
	return strings.Join(d[name], "\n") + "\n" // a document has a line at least
}

// rewrite gives documents the texts of files.
func (d documents) rewrite(files []api.File) {
	for _, f := range files {
		d[f.Name] = strings.Split(strings.TrimSuffix(f.Text, "\n"), "\n")
	}
}

// copied are the same documents, which later changes leave as they are.
func (d documents) copied() documents {
	same := documents{}
	for name, lines := range d {
		same[name] = slices.Clone(lines)
	}
	return same
}

// model is the one that the document with its text describes.
func (d documents) model() api.Model {
	m, _, e := model.Parse(d.text(modelName))
	must(e)
	return m
}

// files are those of the family of programs.
func (d documents) files() []api.File {
	files := []api.File{{Name: mainName, Text: d.text(mainName)}}
	for _, name := range sortedNames(d) {
		if name != mainName && name != modelName && name != editName {
			files = append(files, api.File{Name: name, Text: d.text(name)})
		}
	}
	return files
}

// put adds a line at the end of a document.
func (w *workspace) put(q *request) {
	name := documentName(q.atLeast(1)[0])
	w.documents[name] = append(w.documents[name], strings.TrimPrefix(q.rest(), " "))
	q.ok()
}

func (w *workspace) drop(q *request) {
	name := documentName(q.exactly(1)[0])
	w.mustHave(name)
	delete(w.documents, name)
	q.ok()
}

func (w *workspace) show(q *request) {
	name := documentName(q.exactly(1)[0])
	q.copy(w.text(name))
}

func (w *workspace) listDocuments(q *request) {
	q.exactly(0)
	for _, name := range sortedNames(w.documents) {
		q.write(name)
	}
}
