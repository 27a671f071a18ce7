package model_test

import (
	"slices"
	"strconv"
	"strings"
	"testing"

	"motley/api"
	"motley/formula"
	"motley/model"
)

const phone = "root Phone\nmandatory Phone Screen\noptional Phone Gps\nmember Screen Basic\nmember Screen Colour\n" +
	"group Screen 1 1 Basic Colour\nattribute price\nvalue price Gps 7\nvalue price Colour 20\n" +
	"require Gps => Colour\nlimit price <= 30\n"

func parsed(t *testing.T, text string) api.Model {
	t.Helper()
	m, line, e := model.Parse(text)
	if e != api.OK || line != 0 {
		t.Fatalf("Parse(%.200q): line %d, %v", text, line, e)
	}
	return m
}

func name(s string) api.Expr { return api.Expr{Op: api.OpName, Name: s} }

func node(op uint8, kids ...api.Expr) api.Expr { return api.Expr{Op: op, Kids: kids} }

func feature(name string, parent int, kind uint8) api.Feature {
	return api.Feature{Name: name, Parent: parent, Kind: kind}
}

func rule(kind uint8, i int) api.Rule { return api.Rule{Kind: kind, Index: i} }

// clone is a copy to compare with later.
func clone(m api.Model) api.Model {
	m.Features = slices.Clone(m.Features)
	m.Groups = slices.Clone(m.Groups)
	for k := range m.Groups {
		m.Groups[k].Members = slices.Clone(m.Groups[k].Members)
	}
	m.Attributes = slices.Clone(m.Attributes)
	for k := range m.Attributes {
		m.Attributes[k].Values = slices.Clone(m.Attributes[k].Values)
	}
	m.Requires = slices.Clone(m.Requires)
	for k := range m.Requires {
		m.Requires[k] = cloneExpr(m.Requires[k])
	}
	m.Limits = slices.Clone(m.Limits)
	return m
}

func cloneExpr(e api.Expr) api.Expr {
	e.Kids = slices.Clone(e.Kids)
	for k := range e.Kids {
		e.Kids[k] = cloneExpr(e.Kids[k])
	}
	return e
}

// dice gives numbers that look like chance, the same ones in each run.
type dice uint64

func (d *dice) roll(n int) int {
	*d ^= *d << 13
	*d ^= *d >> 7
	*d ^= *d << 17
	return int(*d >> 1 % dice(n))
}

// models are valid models of up to seven features: the first ones special, the others as the dice fall.
func models(t *testing.T, more int) []api.Model {
	l := []api.Model{
		parsed(t, phone),
		parsed(t, "root a"),
		parsed(t, "root a\nrequire 0"),
		parsed(t, "root a\nrequire 1\nrequire a\noptional a b\nrequire b ^ b"),
		parsed(t, "root a\noptional a b\noptional b c\nmandatory c d\nrequire !b"),
		parsed(t, "root a\noptional a b\nrequire b\noptional b c\nrequire b | c\nrequire c <=> b"),
		parsed(t, "root a\nmember a b\nmember a c\nmember b d\ngroup a 0 0 b\ngroup a 1 1 c\ngroup b 0 1 d"),
		parsed(t, "attribute p\nlimit p = 0\nroot a\nvalue p a 1"),
	}
	d := dice(314159265358979)
	for range more {
		l = append(l, d.model(1+d.roll(7)))
	}
	return l
}

func (d *dice) model(n int) api.Model {
	m := api.Model{Features: []api.Feature{{Name: "F0", Parent: -1, Kind: api.Root}}}
	for i := 1; i < n; i++ {
		kind := [...]uint8{api.Mandatory, api.Optional, api.Optional, api.Member, api.Member}[d.roll(5)]
		m.Features = append(m.Features, api.Feature{Name: "F" + strconv.Itoa(i), Parent: d.roll(i), Kind: kind})
	}
	d.addGroups(&m)
	for k := range d.roll(3) {
		a := api.Attribute{Name: "F" + strconv.Itoa(k)} // features may have this name too
		for range n {
			a.Values = append(a.Values, [...]int64{0, 1, 2, -1, -3, 5, api.MaxCost, -api.MaxCost}[d.roll(8)])
		}
		m.Attributes = append(m.Attributes, a)
	}
	for range d.roll(4) {
		m.Requires = append(m.Requires, d.formula(3, m))
	}
	for range d.roll(3) {
		if len(m.Attributes) > 0 {
			l := api.Limit{Attribute: d.roll(len(m.Attributes)), Rel: uint8(1 + d.roll(3)), Bound: int64(d.roll(9) - 4)}
			m.Limits = append(m.Limits, l)
		}
	}
	return m
}

// addGroups puts each member into a group, behind some others or alone.
func (d *dice) addGroups(m *api.Model) {
	for i, f := range m.Features {
		if f.Kind != api.Member {
			continue
		}
		k := slices.IndexFunc(m.Groups, func(g api.Group) bool { return g.Parent == f.Parent })
		if k < 0 || d.roll(3) == 0 {
			k = len(m.Groups)
			m.Groups = append(m.Groups, api.Group{Parent: f.Parent})
		}
		m.Groups[k].Members = slices.Insert(m.Groups[k].Members, d.roll(len(m.Groups[k].Members)+1), i)
	}
	for k := range m.Groups {
		g := &m.Groups[k]
		g.High = d.roll(len(g.Members) + 1)
		g.Low = d.roll(g.High + 1)
	}
}

func (d *dice) formula(levels int, m api.Model) api.Expr {
	op := uint8(1 + d.roll(10))
	if levels == 1 || d.roll(4) == 0 {
		op = api.OpName
	}
	switch op {
	case api.OpFalse, api.OpTrue:
		return node(op)
	case api.OpName:
		return name(m.Features[d.roll(len(m.Features))].Name)
	}
	e := node(op)
	for range map[uint8]int{api.OpNot: 1, api.OpChoice: 3, api.OpImplies: 2, api.OpSame: 2}[op] {
		e.Kids = append(e.Kids, d.formula(levels-1, m))
	}
	for len(e.Kids) == 0 || op == api.OpAnd && len(e.Kids) < 3 || op != api.OpNot && len(e.Kids) < 2 {
		e.Kids = append(e.Kids, d.formula(levels-1, m))
	}
	return e
}

// has reports whether a configuration has a feature.
func has(c uint32, i int) bool { return c>>i&1 == 1 }

// wantRules are the rules of a model, as the chapter lists them.
func wantRules(m api.Model) []api.Rule {
	var l []api.Rule
	add := func(kind uint8, i int) { l = append(l, rule(kind, i)) }
	add(api.RuleRoot, 0)
	for i := 1; i < len(m.Features); i++ {
		add(api.RuleChild, i)
		if m.Features[i].Kind == api.Mandatory {
			add(api.RuleMandatory, i)
		}
	}
	for i := range m.Groups {
		add(api.RuleLow, i)
		add(api.RuleHigh, i)
	}
	for i := range m.Requires {
		add(api.RuleRequire, i)
	}
	for i := range m.Limits {
		add(api.RuleLimit, i)
	}
	return l
}

// holds reports whether a rule holds for a configuration, by the table of the chapter.
func holds(m api.Model, r api.Rule, c uint32) bool {
	switch r.Kind {
	case api.RuleRoot:
		return has(c, 0)
	case api.RuleChild:
		return !has(c, r.Index) || has(c, m.Features[r.Index].Parent)
	case api.RuleMandatory:
		return !has(c, m.Features[r.Index].Parent) || has(c, r.Index)
	case api.RuleLow:
		g := m.Groups[r.Index]
		return !has(c, g.Parent) || countIn(g.Members, c) >= g.Low
	case api.RuleHigh:
		g := m.Groups[r.Index]
		return !has(c, g.Parent) || countIn(g.Members, c) <= g.High
	case api.RuleRequire:
		is, _ := formula.Eval(m.Requires[r.Index], model.Names(m), c)
		return is
	}
	l := m.Limits[r.Index]
	sum := sumOf(m.Attributes[l.Attribute], c)
	return sum == l.Bound || l.Rel == api.AtMost && sum < l.Bound || l.Rel == api.AtLeast && sum > l.Bound
}

func countIn(members []int, c uint32) int {
	n := 0
	for _, i := range members {
		if has(c, i) {
			n++
		}
	}
	return n
}

func sumOf(a api.Attribute, c uint32) int64 {
	sum := int64(0)
	for i, x := range a.Values {
		if has(c, i) {
			sum += x
		}
	}
	return sum
}

// brokenBy are the numbers of the rules that do not hold.
func brokenBy(m api.Model, c uint32) []int {
	var l []int
	for k, r := range wantRules(m) {
		if !holds(m, r, c) {
			l = append(l, k)
		}
	}
	return l
}

// truth has what is true of a model, found by going through its configurations one by one.
type truth struct {
	api.Model
	n        int
	broken   [][]int // by configuration of one feature more than the model has
	products []uint32
}

func truthOf(m api.Model) truth {
	x := truth{Model: m, n: len(m.Features)}
	for c := range uint32(1) << (x.n + 1) {
		x.broken = append(x.broken, brokenBy(m, c))
		if len(x.broken[c]) == 0 && c < 1<<x.n {
			x.products = append(x.products, c)
		}
	}
	return x
}

// count is how many products are so.
func (x truth) count(is func(c uint32) bool) int {
	n := 0
	for _, c := range x.products {
		if is(c) {
			n++
		}
	}
	return n
}

// dead reports whether no product has the feature.
func (x truth) dead(i int) bool { return x.count(func(c uint32) bool { return has(c, i) }) == 0 }

// core reports whether all products have the feature.
func (x truth) core(i int) bool { return x.count(func(c uint32) bool { return !has(c, i) }) == 0 }

// implies reports whether every product that has the one feature has the other one.
func (x truth) implies(i, k int) bool {
	return x.count(func(c uint32) bool { return has(c, i) && !has(c, k) }) == 0
}

// excluded reports whether these rules hold for no configuration of a set.
func (x truth) excluded(set func(c uint32) bool, rules []int) bool {
	for c, broken := range x.broken {
		meets := slices.ContainsFunc(broken, func(k int) bool { return slices.Contains(rules, k) })
		if set(uint32(c)) && !meets {
			return false
		}
	}
	return true
}

// explanation is that of why a set has no product, found among some rules as the chapter says; false if there is none.
func (x truth) explanation(set func(c uint32) bool, rules []int) ([]int, bool) {
	if !x.excluded(set, rules) {
		return nil, false
	}
	for _, k := range slices.Clone(rules) {
		others := slices.DeleteFunc(slices.Clone(rules), func(other int) bool { return other == k })
		if x.excluded(set, others) {
			rules = others
		}
	}
	return rules, true
}

func (x truth) allRules() []int {
	var l []int
	for k := range wantRules(x.Model) {
		l = append(l, k)
	}
	return l
}

// shaped is how a model looks in messages.
func shaped(m api.Model) string {
	s, e := model.Print(m)
	if e != api.OK {
		return e.Error()
	}
	return strings.ReplaceAll(s, "\n", "; ")
}
