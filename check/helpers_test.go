package check_test

import (
	"slices"
	"strconv"
	"strings"
	"testing"

	"motley/api"
	"motley/check"
	"motley/diagram"
	"motley/source"
	"motley/syntax"
)

// dice gives numbers that look like chance, the same ones in each run.
type dice uint64

func newDice() *dice {
	d := dice(88172645463325252)
	return &d
}

func (d *dice) roll(n int) int {
	*d ^= *d << 13
	*d ^= *d >> 7
	*d ^= *d << 17
	return int(*d >> 1 % dice(n))
}

func pick[T any](d *dice, l ...T) T { return l[d.roll(len(l))] }

// featureNames are those of the sources of these tests.
var featureNames = []string{"A", "B", "C"}

const features = 3

// someSet is a set that depends on the features below n at most.
func someSet(d *dice, n int) diagram.D {
	set := diagram.False()
	for range 1 + d.roll(3) {
		on := uint32(d.roll(1 << n))
		set = set.Or(diagram.Cube(on, uint32(d.roll(1<<n))&^on))
	}
	return set
}

// parsed is the family tree of a source.
func parsed(t testing.TB, text string) syntax.Tree {
	t.Helper()
	l, e := source.Family([]api.File{{Name: "main", Text: text}}, featureNames, diagram.True())
	if e != api.OK {
		t.Fatalf("source.Family of %q: %v", text, e)
	}
	x := syntax.Family(l, diagram.True())
	if !syntax.Valid(x) {
		t.Fatalf("the tree of %q is not valid", text)
	}
	return x
}

// program is the tree of a source that is a program in all configurations.
func program(t testing.TB, text string) syntax.Tree {
	t.Helper()
	x := parsed(t, text)
	if !syntax.Whole(x).Full() {
		t.Fatalf("%q is no program everywhere: %v", text, x.Diags)
	}
	return x
}

func family(t testing.TB, x syntax.Tree, within diagram.D) []check.Fact {
	t.Helper()
	l, e := check.Family(x, within)
	if e != api.OK {
		t.Fatal("Family:", e)
	}
	return l
}

func plain(t testing.TB, x syntax.Tree, c uint32) []check.Fact {
	t.Helper()
	l, e := check.Plain(x, c)
	if e != api.OK {
		t.Fatal("Plain:", e)
	}
	return l
}

var kindNames = map[uint8]string{
	api.FactUse: "use", api.FactType: "type", api.FactFlow: "flow", api.FactError: "error",
}

// shown is a list of facts as a text: the kind, the token, the second number, and the configurations of the first
// features.
func shown(l []check.Fact) string {
	var out []string
	for _, f := range l {
		text := kindNames[f.Kind] + " " + strconv.Itoa(f.Tok) + " " + strconv.Itoa(f.Other)
		if !f.Cond.Full() {
			text += " in"
			for c := range f.Cond.All(features) {
				text += " " + strconv.Itoa(int(c))
			}
		}
		out = append(out, text)
	}
	return strings.Join(out, "\n")
}

// errors are the errors of a list, as a text: each code with its token.
func errors(l []check.Fact) string {
	var out []string
	for _, f := range l {
		if f.Kind == api.FactError {
			out = append(out, strconv.Itoa(f.Other)+" at "+strconv.Itoa(f.Tok))
		}
	}
	return strings.Join(out, ", ")
}

// marked takes the marks from a text with blanks between all tokens: as in one@x, where the token x has the mark one.
// It returns the text without marks, and the numbers of the tokens that have them.
func marked(text string) (string, map[string]int) {
	marks := map[string]int{}
	var words []string
	for _, word := range strings.Fields(text) {
		if name, rest, is := strings.Cut(word, "@"); is {
			marks[name] = len(words)
			word = rest
		}
		words = append(words, word)
	}
	return strings.Join(words, " "), marks
}

// toks replaces the names of marks in a text by their tokens.
func toks(text string, marks map[string]int) string {
	words := strings.Split(text, " ")
	for k, word := range words {
		name, comma := strings.CutSuffix(word, ",")
		if tok, is := marks[name]; is {
			words[k] = strconv.Itoa(tok)
			if comma {
				words[k] += ","
			}
		}
	}
	return strings.Join(words, " ")
}

// node is a node that is there everywhere.
func node(kind uint8, text string, tok, slot int, kids ...syntax.Node) syntax.Node {
	return syntax.Node{Kind: kind, Text: text, Tok: tok, Slot: slot, Kids: kids, Cond: diagram.True()}
}

// inMain is a tree whose main has a Block, the token 1, with these statements.
func inMain(t testing.TB, statements ...syntax.Node) syntax.Tree {
	t.Helper()
	block := node(api.Block, "", 1, 2, statements...)
	x := syntax.Tree{Kids: []syntax.Node{node(api.Program, "", -1, 0, node(api.Fn, "main", 0, 0, block))}}
	if !syntax.Valid(x) {
		t.Fatal("the tree is not valid")
	}
	return x
}

// changed is a tree with other nodes: change gets each node, with its kids changed.
func changed(x syntax.Tree, change func(syntax.Node) syntax.Node) syntax.Tree {
	var nodes func(l []syntax.Node) []syntax.Node
	nodes = func(l []syntax.Node) []syntax.Node {
		var out []syntax.Node
		for _, n := range l {
			n.Kids = nodes(n.Kids)
			out = append(out, change(n))
		}
		return out
	}
	return syntax.Tree{Kids: nodes(x.Kids), Diags: slices.Clone(x.Diags)}
}
