package evolve

import (
	"slices"
	"strings"

	"motley/api"
	"motley/diagram"
	"motley/source"
)

// Derive returns the text of the product of a configuration.
func Derive(files []api.File, names []string, c uint32) (string, api.Errno) {
	product, e := source.Plain(files, names, c)
	if e != api.OK {
		return "", e
	}
	return source.Text(product), api.OK
}

// Lift returns the files in which, where d is, the product of c is the edited one.
func Lift(files []api.File, names []string, d diagram.D, c uint32, e string) ([]api.File, api.Errno) {
	product, err := source.Plain(files, names, c)
	if err != api.OK {
		return nil, err
	}
	if !d.Has(known(c, names)) {
		return nil, api.ErrArg
	}
	guard, err := Guard(d, names)
	if err != api.OK {
		return nil, err
	}
	edited, err := lexed(e)
	if err != api.OK {
		return nil, err
	}
	x := editOf(productLines(product), edited)
	if x.leavesMain() {
		return nil, api.ErrState
	}
	lifted := slices.Clone(files)
	if !x.isNone() {
		lifted[mainFile].Text = x.lifted(files[mainFile].Text, guard)
	}
	again, err := source.Plain(lifted, names, c)
	if err != api.OK {
		return nil, api.ErrLimit
	}
	if want := (source.List{Tokens: slices.Concat(edited...)}); !source.Differ(again, want, diagram.True()).Empty() {
		return nil, api.ErrState
	}
	return lifted, api.OK
}

// edit is what leads from the lines of a product to other lines: some are removed, and some inserted in their place.
type edit struct {
	removed  []spot
	inserted []string
	after    spot // the line before those that are inserted; line 0 if there is none
}

func editOf(product, edited [][]source.Token) edit {
	both := min(len(product), len(edited))
	first := shared(both, func(k int) bool { return wordsOf(product[k]) == wordsOf(edited[k]) })
	last := shared(both-first, func(k int) bool {
		return wordsOf(product[len(product)-1-k]) == wordsOf(edited[len(edited)-1-k])
	})
	var x edit
	for _, line := range product[first : len(product)-last] {
		x.removed = append(x.removed, spotOf(line[0]))
	}
	for _, line := range edited[first : len(edited)-last] {
		x.inserted = append(x.inserted, wordsOf(line))
	}
	if first > 0 {
		x.after = spotOf(product[first-1][0])
	}
	return x
}

// shared is for how many numbers from 0 on, but at most n, something holds.
func shared(n int, holds func(k int) bool) int {
	k := 0
	for k < n && holds(k) {
		k++
	}
	return k
}

func (x edit) isNone() bool { return len(x.removed)+len(x.inserted) == 0 }

// leavesMain reports whether the edit would have to change another file than the main one.
func (x edit) leavesMain() bool {
	return len(x.inserted) > 0 && x.after.file != mainFile ||
		slices.ContainsFunc(x.removed, func(s spot) bool { return s.file != mainFile })
}

// lifted is a text of the main file with the edit, where a guard is true.
func (x edit) lifted(text, guard string) string {
	var out []string
	insertAfter := func(line int) {
		if len(x.inserted) > 0 && x.after.line == line {
			out = append(out, conditional(guard, x.inserted...)...)
		}
	}
	insertAfter(0)
	for k, line := range linesOf(text) {
		if slices.Contains(x.removed, spot{mainFile, k + 1}) {
			out = append(out, conditional("!("+guard+")", line)...)
		} else {
			out = append(out, line)
		}
		insertAfter(k + 1)
	}
	return strings.Join(out, "\n") + "\n"
}

// conditional puts lines between an #if and its #endif.
func conditional(expression string, lines ...string) []string {
	return slices.Concat([]string{"#if " + expression}, lines, []string{"#endif"})
}
