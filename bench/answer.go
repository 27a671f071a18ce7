package bench

import "strings"

// answer is what a command writes.
type answer struct{ strings.Builder }

// write writes words, with a blank between two, as a line.
func (a *answer) write(words ...string) { a.copy(strings.Join(words, " ") + "\n") }

// copy writes lines that have their line feeds.
func (a *answer) copy(lines string) { a.WriteString(lines) }

// ok is the answer of commands that have nothing else to say.
func (a *answer) ok() { a.write("ok") }
