package source

import (
	"cmp"
	"slices"
	"strings"

	"motley/api"
)

// program is what the files are, as lines.
type program struct {
	names []string
	files [][]line
}

// spot is a place in the files; 0 where there is none.
type spot struct{ file, line int }

// Check returns the first error of the files and names, and where it is.
func Check(files []api.File, names []string) (file, line int, e api.Errno) {
	_, at, e := read(files, names)
	return at.file, at.line, e
}

// read returns the program; or the first error, and where it is.
func read(files []api.File, names []string) (program, spot, api.Errno) {
	switch {
	case len(files) == 0:
		return program{}, spot{}, api.ErrArg
	case len(files) > api.MaxFiles || len(names) > api.MaxFeatures:
		return program{}, spot{}, api.ErrLimit
	}
	if at, e := checkNames(files, names); e != api.OK {
		return program{}, at, e
	}
	r := reader{program: program{names: names}, fileNames: namesOf(files)}
	for k, f := range files {
		if number, e := r.file(f.Text); e != api.OK {
			return program{}, spot{k, number}, e
		}
	}
	if at, is := r.cycle(); is {
		return program{}, at, api.ErrCycle
	}
	if r.total(0) > api.MaxAll {
		return program{}, spot{}, api.ErrLimit
	}
	return r.program, spot{}, api.OK
}

func namesOf(files []api.File) []string {
	var l []string
	for _, f := range files {
		l = append(l, f.Name)
	}
	return l
}

// checkNames looks at the names of files and features.
func checkNames(files []api.File, names []string) (spot, api.Errno) {
	if k, e := checkList(namesOf(files), isFileName); e != api.OK {
		return spot{file: k}, e
	}
	_, e := checkList(names, func(s string) bool { return isName(s) && s != definedWord })
	return spot{}, e
}

// checkList returns the first error of names that are to be different, and the index of the name.
func checkList(names []string, valid func(string) bool) (int, api.Errno) {
	for k, s := range names {
		switch {
		case !valid(s):
			return k, api.ErrName
		case slices.Contains(names[:k], s):
			return k, api.ErrTwice
		}
	}
	return 0, api.OK
}

// reader reads a program file by file.
type reader struct {
	program
	fileNames   []string
	definitions int    // how many there were
	elses       []bool // of each conditional that is open: whether its else was there
}

// file reads a file; or returns its first error, and the number of the line.
func (r *reader) file(text string) (int, api.Errno) {
	if len(text) > api.MaxText || countLines(text) > api.MaxLines {
		return 0, api.ErrLimit
	}
	var lines []line
	for s := range strings.Lines(text) {
		l, e := r.line(strings.TrimSuffix(s, "\n"))
		if e != api.OK {
			return len(lines) + 1, e
		}
		lines = append(lines, l)
	}
	if len(r.elses) > 0 {
		return len(lines) + 1, api.ErrState
	}
	r.files = append(r.files, lines)
	return 0, api.OK
}

func countLines(text string) int {
	n := strings.Count(text, "\n")
	if text != "" && !strings.HasSuffix(text, "\n") {
		n++
	}
	return n
}

// line reads the next line of a file.
func (r *reader) line(text string) (line, api.Errno) {
	l, is := parse(text)
	if !is {
		return line{}, api.ErrForm
	}
	if e := cmp.Or(r.limitError(l), r.nameError(l), twiceError(l), r.stateError(l)); e != api.OK {
		return line{}, e
	}
	switch {
	case l.begins():
		r.elses = append(r.elses, false)
	case l.word == elseWord:
		r.elses[len(r.elses)-1] = true
	case l.word == endifWord:
		r.elses = r.elses[:len(r.elses)-1]
	case l.word == includeWord:
		l.file = slices.Index(r.fileNames, l.name)
	case l.word == defineWord:
		r.definitions++
		l.macro.number = r.definitions
	}
	return l, api.OK
}

func (r *reader) limitError(l line) api.Errno {
	if l.width > api.MaxWidth || len(l.macro.params) > api.MaxParams || l.begins() && len(r.elses) >= api.MaxIfs {
		return api.ErrLimit
	}
	return api.OK
}

func (r *reader) nameError(l line) api.Errno {
	bad := false
	switch l.word {
	case defineWord:
		bad = r.reserved(l.macro.name) || slices.Contains(l.macro.params, definedWord)
	case undefWord:
		bad = r.reserved(l.name)
	case includeWord:
		bad = !slices.Contains(r.fileNames, l.name)
	}
	if bad {
		return api.ErrName
	}
	return api.OK
}

// reserved reports whether a name can be neither defined nor undefined.
func (r *reader) reserved(name string) bool {
	return name == definedWord || slices.Contains(r.names, name)
}

func twiceError(l line) api.Errno {
	for k, s := range l.macro.params {
		if slices.Contains(l.macro.params[:k], s) {
			return api.ErrTwice
		}
	}
	return api.OK
}

func (r *reader) stateError(l line) api.Errno {
	last := len(r.elses) - 1
	if l.continues() && (last < 0 || l.word != endifWord && r.elses[last]) {
		return api.ErrState
	}
	return api.OK
}

// cycle finds the first line that closes a cycle of includes.
func (r *reader) cycle() (spot, bool) {
	leads := r.leads()
	for k, lines := range r.files {
		for i, l := range lines {
			if l.word == includeWord && leads[l.file][k] {
				return spot{k, i + 1}, true
			}
		}
	}
	return spot{}, false
}

// leads tells of each file to which ones includes lead from it; to itself in any case.
func (r *reader) leads() [api.MaxFiles][api.MaxFiles]bool {
	var leads [api.MaxFiles][api.MaxFiles]bool
	for k, lines := range r.files {
		leads[k][k] = true
		for _, l := range lines {
			if l.word == includeWord {
				leads[k][l.file] = true
			}
		}
	}
	for over := range leads {
		for from := range leads {
			for to := range leads {
				if leads[from][over] && leads[over][to] {
					leads[from][to] = true
				}
			}
		}
	}
	return leads
}

// total is how many lines a file has with all that it includes; MaxAll plus 1 if there are more. No include may lead
// back to the file.
func (r *reader) total(file int) int {
	var totals [api.MaxFiles]int
	var of func(file int) int
	of = func(file int) int {
		if totals[file] > 0 {
			return totals[file]
		}
		n := len(r.files[file])
		for _, l := range r.files[file] {
			if l.word == includeWord {
				n = min(n+of(l.file), api.MaxAll+1)
			}
		}
		totals[file] = n
		return n
	}
	return of(file)
}
