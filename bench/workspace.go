package bench

import (
	"motley/api"
	"motley/formula"
)

// startFuel is the fuel of a new workspace.
const startFuel = 1000

// workspace is what commands change and ask.
type workspace struct {
	documents
	sets     map[string]string    // the texts of formulas, by the names of the sets
	choices  string               // the text of a session, as package decide reads and writes it
	versions map[string]documents // by their names
	fuel     int
}

func newWorkspace() workspace {
	return workspace{
		documents: documents{},
		sets:      map[string]string{},
		versions:  map[string]documents{},
		fuel:      startFuel,
	}
}

// command does what a request says; it fails before it changes anything.
type command func(w *workspace, q *request)

// commands are by the first word of the line.
func commands() map[string]command {
	return map[string]command{
		"put":      (*workspace).put,
		"drop":     (*workspace).drop,
		"show":     (*workspace).show,
		"docs":     (*workspace).listDocuments,
		"set":      (*workspace).define,
		"fuel":     (*workspace).refuel,
		"model":    (*workspace).analyse,
		"rules":    (*workspace).rules,
		"count":    (*workspace).count,
		"list":     (*workspace).list,
		"least":    (*workspace).least,
		"why":      (*workspace).why,
		"+":        (*workspace).choose,
		"-":        (*workspace).refuse,
		"undo":     (*workspace).undo,
		"session":  (*workspace).states,
		"complete": (*workspace).complete,
		"sample":   (*workspace).sample,
		"bound":    (*workspace).bound,
		"derive":   (*workspace).derive,
		"diags":    (*workspace).diagnose,
		"good":     (*workspace).good,
		"run":      (*workspace).run,
		"runs":     (*workspace).runs,
		"causes":   (*workspace).causes,
		"keep":     (*workspace).keep,
		"versions": (*workspace).listVersions,
		"change":   (*workspace).change,
		"differ":   (*workspace).differ,
		"lift":     (*workspace).lift,
		"trim":     (*workspace).trim,
	}
}

// define makes a set, or gives it another formula.
func (w *workspace) define(q *request) {
	name := setName(q.atLeast(2)[0])
	if _, _, e := formula.Parse(q.rest()); e != api.OK {
		fail(api.ErrForm)
	}
	w.sets[name] = q.rest()
	q.ok()
}

func (w *workspace) refuel(q *request) {
	fuel := number(q.exactly(1)[0])
	if fuel < 0 || fuel > api.MaxFuel {
		fail(api.ErrRange)
	}
	w.fuel = int(fuel)
	q.ok()
}
