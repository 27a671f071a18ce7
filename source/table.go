package source

import (
	"cmp"
	"maps"
	"slices"

	"motley/api"
	"motley/diagram"
)

// table has, by their names, the macros that are there in some configurations, by number. No two of one name are
// there in the same configuration.
type table map[string][]entry

// entry is a macro, and where it is in the table.
type entry struct {
	*macro
	cond diagram.D
}

// newTable has the features.
func newTable(names []string, selected func(i int) diagram.D) table {
	t := table{}
	for i, name := range names {
		one := token{kind: api.TokNumber, text: "1"}
		t.define(&macro{name: name, body: []token{one}}, selected(i))
	}
	return t
}

// define puts a macro into the table, in place of those with its name.
func (t table) define(m *macro, d diagram.D) {
	if d.Empty() {
		return
	}
	t.remove(m.name, d)
	l := t[m.name]
	at, is := slices.BinarySearchFunc(l, m.number, func(e entry, number int) int { return cmp.Compare(e.number, number) })
	if is {
		l[at].cond = l[at].cond.Or(d)
		return
	}
	t[m.name] = slices.Insert(l, at, entry{m, d})
}

// remove takes the macros with a name out of the table.
func (t table) remove(name string, d diagram.D) {
	var left []entry
	for _, e := range t[name] {
		if e.cond = without(e.cond, d); !e.cond.Empty() {
			left = append(left, e)
		}
	}
	t[name] = left
}

// has returns the configurations in which there is a macro with a name.
func (t table) has(name string) diagram.D {
	union := diagram.False()
	for _, e := range t[name] {
		union = union.Or(e.cond)
	}
	return union
}

// Macros returns the macros that are in the table after the last line.
func Macros(files []api.File, names []string, within diagram.D) ([]Macro, api.Errno) {
	w, e := family(files, names, within)
	if e != api.OK {
		return nil, e
	}
	var l []Macro
	for _, name := range slices.Sorted(maps.Keys(w.table)) {
		for _, e := range w.table[name] {
			if cond := e.cond.And(within); !cond.Empty() {
				l = append(l, e.shown(cond))
			}
		}
	}
	return l, api.OK
}

// shown is a macro as a value of its own.
func (m *macro) shown(cond diagram.D) Macro {
	s := Macro{Name: m.name, Number: m.number, Call: m.call, Params: slices.Clone(m.params), Cond: cond}
	for _, t := range m.body {
		s.Body = append(s.Body, t.text)
	}
	return s
}
