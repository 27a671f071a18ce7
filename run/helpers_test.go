package run_test

import (
	"slices"
	"strconv"
	"strings"
	"testing"

	"motley/api"
	"motley/diagram"
	"motley/run"
	"motley/syntax"
)

// dice gives numbers that look like chance, the same ones in each run.
type dice uint64

func newDice() *dice {
	d := dice(88172645463325252)
	return &d
}

func (d *dice) roll(n int) int {
	*d ^= *d << 13
	*d ^= *d >> 7
	*d ^= *d << 17
	return int(*d >> 1 % dice(n))
}

func pick[T any](d *dice, l ...T) T { return l[d.roll(len(l))] }

// featureNames are those of the sources of these tests.
var featureNames = []string{"A", "B", "C"}

const features = 3

// someSet is a set that depends on the features below n at most.
func someSet(d *dice, n int) diagram.D {
	set := diagram.False()
	for range 1 + d.roll(3) {
		on := uint32(d.roll(1 << n))
		set = set.Or(diagram.Cube(on, uint32(d.roll(1<<n))&^on))
	}
	return set
}

func files(text string) []api.File { return []api.File{{Name: "main", Text: text}} }

func built(t testing.TB, text string) run.Built {
	t.Helper()
	b, e := run.Build(files(text), featureNames, diagram.True())
	if e != api.OK {
		t.Fatalf("Build of %q: %v", text, e)
	}
	return b
}

// program is the tree of a source that is good in all configurations.
func program(t testing.TB, text string) syntax.Tree {
	t.Helper()
	b := built(t, text)
	if !b.Good.Full() {
		t.Fatalf("%q is not good everywhere", text)
	}
	return b.Tree
}

func plain(t testing.TB, x syntax.Tree, c uint32, in []int64, fuel int) run.Outcome {
	t.Helper()
	o, e := run.Plain(x, c, in, fuel)
	if e != api.OK {
		t.Fatal("Plain:", e)
	}
	return o
}

func family(t testing.TB, x syntax.Tree, within diagram.D, in []int64, fuel int) []run.Part {
	t.Helper()
	l, e := run.Family(x, within, in, fuel)
	if e != api.OK {
		t.Fatal("Family:", e)
	}
	return l
}

func equal(a, b run.Outcome) bool {
	return a.Status == b.Status && a.Tok == b.Tok && a.Steps == b.Steps && slices.Equal(a.Out, b.Out)
}

// statusNames are by the statuses.
var statusNames = []string{"done", "rejected", "zero", "failed", "fuel", "deep"}

// shown is an outcome as a text: the status, the token if there is one, the steps, and the outputs.
func shown(o run.Outcome) string {
	text := "status " + strconv.Itoa(int(o.Status))
	if int(o.Status) < len(statusNames) {
		text = statusNames[o.Status]
	}
	if o.Tok != -1 {
		text += " at " + strconv.Itoa(o.Tok)
	}
	text += ", " + strconv.Itoa(o.Steps)
	before := ": "
	for _, x := range o.Out {
		text += before + strconv.FormatInt(x, 10)
		before = " "
	}
	return text
}

// shownParts are parts as a text, with the configurations of the first features.
func shownParts(l []run.Part) string {
	var out []string
	for _, p := range l {
		text := shown(p.Outcome)
		if !p.Cond.Full() {
			text += " in"
			for c := range p.Cond.All(features) {
				text += " " + strconv.Itoa(int(c))
			}
		}
		out = append(out, text)
	}
	return strings.Join(out, "\n")
}

// marked takes the marks from a text with blanks between all tokens: as in one@x, where the token x has the mark one.
// It returns the text without marks, and the numbers of the tokens that have them.
func marked(text string) (string, map[string]int) {
	marks := map[string]int{}
	var words []string
	for _, word := range strings.Fields(text) {
		if name, rest, is := strings.Cut(word, "@"); is {
			marks[name] = len(words)
			word = rest
		}
		words = append(words, word)
	}
	return strings.Join(words, " "), marks
}

// node is a node that is there everywhere.
func node(kind uint8, text string, tok, slot int, kids ...syntax.Node) syntax.Node {
	return syntax.Node{Kind: kind, Text: text, Tok: tok, Slot: slot, Kids: kids, Cond: diagram.True()}
}

// tree is a valid tree with these declarations.
func tree(t testing.TB, declarations ...syntax.Node) syntax.Tree {
	t.Helper()
	x := syntax.Tree{Kids: []syntax.Node{node(api.Program, "", -1, 0, declarations...)}}
	if !syntax.Valid(x) {
		t.Fatal("the tree is not valid")
	}
	return x
}

// invalidTrees are trees that are not valid.
func invalidTrees() []syntax.Tree {
	good := node(api.Program, "", -1, 0)
	cycle := node(api.Block, "", 1, 0, syntax.Node{})
	cycle.Kids[0] = cycle
	return []syntax.Tree{
		{Kids: []syntax.Node{node(api.Block, "", 1, 0)}},
		{Kids: []syntax.Node{node(api.Program, "", -1, 0, node(api.Var, "x", 1, 0))}},
		{Kids: []syntax.Node{good, good}},
		{Kids: []syntax.Node{good}, Diags: []syntax.Diag{{Code: api.CodeSyntax, Tok: 1, Cond: diagram.True()}}},
		{Kids: []syntax.Node{cycle}},
		{Kids: []syntax.Node{node(99, "", -1, 0)}},
	}
}
