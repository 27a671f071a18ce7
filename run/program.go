package run

import (
	"strconv"

	"motley/api"
	"motley/check"
	"motley/diagram"
	"motley/syntax"
)

const (
	mainName  = "main"
	trueWord  = "true"
	mostSlots = 3
)

// program is what is to be run.
type program struct {
	choices
	within diagram.D
	good   diagram.D // where it is not rejected
	above  node      // of which Program is the kid
	levels int
}

// node is a node of a tree, with all that can be known of it before it is executed. Its sets are narrowed to the
// configurations in which the program can be run.
type node struct {
	kind   uint8
	name   string
	tok    int
	cond   *choice // where it is there
	always bool    // it is there wherever its parent is
	slots  [mostSlots][]*node
	value  int64     // of a Number or a Bool
	op     operation // of a Binary or a Unary
	global bool      // of a Var
	means  []meaning // of a name that is used
	places []place   // of an argument or a Param
}

// meaning is a declaration, and where it is the one that is meant.
type meaning struct {
	declaration *node
	cond        *choice
}

// place is which one of its list an argument or a Param is, in some configurations.
type place struct {
	number int
	cond   *choice
}

// maker makes the nodes of a program.
type maker struct {
	*program
	start    *choice // the good ones
	sets     map[diagram.D]*choice
	uses     map[int][]check.Fact // by the token of the name
	declared map[int][]*node      // by their tokens
	names    []*node              // that are used
}

// prepared is the program of a valid tree for some configurations.
func prepared(t syntax.Tree, within diagram.D) *program {
	facts, _ := check.Family(t, within)
	_, levels := syntax.Size(t)
	p := &program{choices: newChoices(), within: within, good: clean(t, facts, within),
		above: node{cond: same(1)}, levels: levels}
	m := &maker{program: p, sets: map[diagram.D]*choice{}, uses: map[int][]check.Fact{}, declared: map[int][]*node{}}
	m.start = m.set(p.good)
	for _, f := range facts {
		if f.Kind == api.FactUse {
			m.uses[f.Tok] = append(m.uses[f.Tok], f)
		}
	}
	for k := range t.Kids {
		m.add(&t.Kids[k], &p.above)
	}
	for _, n := range m.names {
		m.resolve(n)
	}
	return p
}

// where is the set of a condition.
func (m *maker) where(d diagram.D) *choice {
	set, is := m.sets[d]
	if !is {
		set = m.narrow(m.set(d), m.start)
		m.sets[d] = set
	}
	return set
}

// add makes a node, with all that is below it.
func (m *maker) add(from *syntax.Node, parent *node) {
	n := &node{kind: from.Kind, name: from.Text, tok: from.Tok, cond: m.where(from.Cond)}
	if n.cond.isEmpty() || m.start.isEmpty() {
		return
	}
	n.always = m.without(parent.cond, n.cond).isEmpty()
	n.global = parent.kind == api.Program
	parent.slots[from.Slot] = append(parent.slots[from.Slot], n)
	for k := range from.Kids {
		m.add(&from.Kids[k], n)
	}
	switch n.kind {
	case api.Var, api.Param:
		m.declared[n.tok] = append(m.declared[n.tok], n)
	case api.Fn:
		m.declared[n.tok] = append(m.declared[n.tok], n)
		m.number(n)
	case api.Call:
		m.names = append(m.names, n)
		m.number(n)
	case api.Name, api.Assign:
		m.names = append(m.names, n)
	case api.Number:
		n.value, _ = strconv.ParseInt(n.name, 10, 64)
	case api.Bool:
		n.value = truth(n.name == trueWord)
	case api.Binary:
		n.op = binary(n.name)
	case api.Unary:
		n.op = unary(n.name)
	}
}

// number finds the places of the kids in the first slot. In each configuration they are numbered without those that it
// has not.
func (m *maker) number(n *node) {
	before := []place{{0, n.cond}} // how many there are before the kid
	for _, kid := range n.slots[0] {
		var after []place
		for _, p := range before {
			here := m.meet(p.cond, kid.cond)
			kid.places = m.placed(kid.places, p.number, here)
			after = m.placed(after, p.number, m.without(p.cond, kid.cond))
			after = m.placed(after, p.number+1, here)
		}
		before = after
	}
}

// placed adds a place to a list in which the greatest number is the last one.
func (m *maker) placed(l []place, number int, set *choice) []place {
	switch last := len(l) - 1; {
	case set.isEmpty():
		return l
	case last >= 0 && l[last].number == number:
		l[last].cond = m.union(l[last].cond, set)
		return l
	}
	return append(l, place{number, set})
}

// resolve finds what a name means.
func (m *maker) resolve(n *node) {
	for _, use := range m.uses[n.tok] {
		for _, d := range m.declared[use.Other] {
			set := m.meet(m.meet(m.where(use.Cond), n.cond), d.cond)
			if !set.isEmpty() {
				n.means = append(n.means, meaning{d, set})
			}
		}
	}
}
