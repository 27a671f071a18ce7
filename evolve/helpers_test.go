package evolve_test

import (
	"slices"
	"strings"
	"testing"

	"motley/api"
	"motley/diagram"
	"motley/model"
)

var all, none = diagram.True(), diagram.False()

// has are the configurations in which a feature is selected.
func has(i int) diagram.D { return diagram.Cube(1<<i, 0) }

// set is the set of the configurations below 2^n that are chosen, whatever the other features are.
func set(n int, chosen func(c uint32) bool) diagram.D {
	d := none
	for c := range uint32(1) << n {
		if chosen(c) {
			d = d.Or(diagram.Cube(c, (1<<n-1)&^c))
		}
	}
	return d
}

// dice gives numbers that look like chance, the same ones in each run.
type dice uint64

func newDice() *dice {
	d := dice(88172645463325252)
	return &d
}

func (d *dice) roll(n int) int {
	*d ^= *d << 13
	*d ^= *d >> 7
	*d ^= *d << 17
	return int(*d >> 1 % dice(n))
}

func pick[T any](d *dice, l ...T) T { return l[d.roll(len(l))] }

func shuffled[T any](d *dice, l []T) []T {
	l = slices.Clone(l)
	for k := range l {
		other := k + d.roll(len(l)-k)
		l[k], l[other] = l[other], l[k]
	}
	return l
}

// someSet is a set that depends on the features below n at most.
func (d *dice) someSet(n int) diagram.D {
	return set(n, func(uint32) bool { return d.roll(2) == 0 })
}

// main is a main file alone.
func main(text string) []api.File { return []api.File{{Name: "main", Text: text}} }

func parsed(t testing.TB, text string) api.Model {
	t.Helper()
	m, line, e := model.Parse(text)
	if e != api.OK {
		t.Fatalf("Parse(%q): line %d, %v", text, line, e)
	}
	return m
}

func printed(t testing.TB, m api.Model) string {
	t.Helper()
	text, e := model.Print(m)
	if e != api.OK {
		t.Fatal("Print:", e)
	}
	return text
}

// wide is a model with so many optional features below the root, whose names begin with a prefix.
func wide(n int, prefix string) api.Model {
	m := api.Model{}
	for i := range n {
		m.Features = append(m.Features, api.Feature{Name: prefix + string(rune('a'+i)), Kind: api.Optional})
	}
	m.Features[0].Parent, m.Features[0].Kind = -1, api.Root
	return m
}

// pool are the names of the features of models that are made by dice.
var pool = []string{"a", "b", "c", "d", "e", "f", "g"}

// model is a model with at most so many features.
func (d *dice) model(most int) api.Model {
	m := api.Model{Features: []api.Feature{{Parent: -1, Kind: api.Root}}}
	for i := range d.roll(most) {
		kind := pick(d, api.Mandatory, api.Optional, api.Optional, api.Member, api.Member)
		m.Features = append(m.Features, api.Feature{Parent: d.roll(i + 1), Kind: kind})
	}
	for i, name := range shuffled(d, pool)[:len(m.Features)] {
		m.Features[i].Name = name
	}
	for i, f := range m.Features {
		if f.Kind != api.Member {
			continue
		}
		k := slices.IndexFunc(m.Groups, func(g api.Group) bool { return g.Parent == f.Parent })
		if k < 0 {
			k = len(m.Groups)
			m.Groups = append(m.Groups, api.Group{Parent: f.Parent, Low: d.roll(2), High: 1})
		}
		m.Groups[k].Members = append(m.Groups[k].Members, i)
		m.Groups[k].High = 1 + d.roll(len(m.Groups[k].Members))
	}
	for range d.roll(3) {
		m.Requires = append(m.Requires, d.formula(3, m))
	}
	if d.roll(4) == 0 {
		a := api.Attribute{Name: "p"}
		for range m.Features {
			a.Values = append(a.Values, int64(d.roll(4)))
		}
		m.Attributes = append(m.Attributes, a)
		m.Limits = append(m.Limits, api.Limit{Rel: pick(d, api.AtMost, api.AtLeast), Bound: int64(d.roll(6))})
	}
	return m
}

func (d *dice) formula(levels int, m api.Model) api.Expr {
	if levels == 1 || d.roll(4) == 0 {
		return api.Expr{Op: api.OpName, Name: pick(d, m.Features...).Name}
	}
	op := pick(d, api.OpNot, api.OpAnd, api.OpOr, api.OpOr, api.OpXor, api.OpImplies, api.OpImplies)
	e := api.Expr{Op: op, Kids: []api.Expr{d.formula(levels-1, m)}}
	if op != api.OpNot {
		e.Kids = append(e.Kids, d.formula(levels-1, m))
	}
	return e
}

// reordered is the same model with its features in another order.
func (d *dice) reordered(m api.Model) api.Model {
	order := []int{0}
	for len(order) < len(m.Features) {
		i := d.roll(len(m.Features))
		if !slices.Contains(order, i) && slices.Contains(order, m.Features[i].Parent) {
			order = append(order, i)
		}
	}
	out := api.Model{Requires: m.Requires, Limits: m.Limits}
	for _, i := range order {
		f := m.Features[i]
		f.Parent = slices.Index(order, f.Parent)
		out.Features = append(out.Features, f)
	}
	for _, g := range m.Groups {
		g.Parent = slices.Index(order, g.Parent)
		g.Members = slices.Clone(g.Members)
		for k, i := range g.Members {
			g.Members[k] = slices.Index(order, i)
		}
		out.Groups = append(out.Groups, g)
	}
	for _, a := range m.Attributes {
		values := slices.Clone(a.Values)
		for i, k := range order {
			values[i] = a.Values[k]
		}
		out.Attributes = append(out.Attributes, api.Attribute{Name: a.Name, Values: values})
	}
	return out
}

// changed is a model with some change, or in another order.
func (d *dice) changed(m api.Model) api.Model {
	m = d.reordered(m)
	switch k := d.roll(len(m.Features)); d.roll(6) {
	case 0:
		m.Requires = append(slices.Clone(m.Requires), d.formula(3, m))
	case 1:
		m.Requires = nil
	case 2:
		if m.Features[k].Kind == api.Mandatory {
			m.Features[k].Kind = api.Optional
		}
	case 3:
		m.Limits = nil
	case 4:
		names := shuffled(d, model.Names(m))
		for i := range m.Features {
			m.Features[i].Name = names[i]
		}
	}
	return m
}

// pairs are pairs of models: some that have much in common, and some by chance.
func pairs(t testing.TB, n int) [][2]api.Model {
	t.Helper()
	d := newDice()
	a, void := parsed(t, "root a\noptional a b"), parsed(t, "root b\nrequire !b")
	l := [][2]api.Model{{a, a}, {a, void}, {void, a}, {void, parsed(t, "root a\nrequire 0")}}
	for range n {
		a := d.model(5)
		l = append(l, [2]api.Model{a, d.model(5)}, [2]api.Model{a, d.changed(a)})
	}
	for _, p := range l {
		for _, m := range p {
			if e := model.Check(m); e != api.OK {
				t.Fatal("a model that is not valid:", e)
			}
		}
	}
	return l
}

// isIn reports whether a configuration of some names is in the set of a model over them, as the chapter defines it.
func isIn(m api.Model, names []string, c uint32) bool {
	product := uint32(0)
	for i, name := range names {
		k := slices.Index(model.Names(m), name)
		switch {
		case c>>i&1 == 0:
		case k < 0:
			return false
		default:
			product |= 1 << k
		}
	}
	return isProduct(m, product)
}

func isProduct(m api.Model, c uint32) bool {
	broken, e := model.Broken(m, c)
	return e == api.OK && len(broken) == 0
}

// badModels are models that are not valid, each with the error of Check.
func badModels() map[api.Errno]api.Model {
	endless := api.Expr{Op: api.OpNot, Kids: make([]api.Expr, 1)}
	endless.Kids[0] = endless
	bad := wide(2, "x")
	bad.Requires = []api.Expr{endless}
	twice := wide(2, "x")
	twice.Features[1].Name = "xa"
	return map[api.Errno]api.Model{
		api.ErrArg:   bad,
		api.ErrLimit: wide(25, "x"),
		api.ErrName:  wide(2, "1"),
		api.ErrTwice: twice,
	}
}

// badNames are lists that are not valid, each with its error, which is that of the first name that has one.
func badNames() map[api.Errno][][]string {
	return map[api.Errno][][]string{
		api.ErrLimit: {make([]string, 25), slices.Repeat([]string{"a"}, 25)},
		api.ErrName:  {{""}, {"a", "1b"}, {"a", "b c"}, {"a", strings.Repeat("x", 33), "a"}},
		api.ErrTwice: {{"a", "a"}, {"a", "b", "a", "1"}},
	}
}

// badFiles are files that source.Check does not accept, each with the error.
func badFiles() map[api.Errno][]api.File {
	return map[api.Errno][]api.File{
		api.ErrArg:   nil,
		api.ErrForm:  main("x\n@"),
		api.ErrLimit: main(strings.Repeat("\n", 2001)),
		api.ErrName:  main("#include \"x\""),
		api.ErrTwice: append(main(""), main("")...),
		api.ErrState: main("#endif"),
		api.ErrCycle: main("#include \"main\""),
	}
}
