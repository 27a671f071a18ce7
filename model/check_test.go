package model_test

import (
	"slices"
	"strconv"
	"strings"
	"testing"

	"motley/api"
	"motley/diagram"
	"motley/model"
)

// P3.1

// wide is a model with so many features below the root.
func wide(n int, kind uint8) api.Model {
	m := api.Model{Features: []api.Feature{{Name: "f0", Parent: -1, Kind: api.Root}}}
	for i := 1; i < n; i++ {
		m.Features = append(m.Features, api.Feature{Name: "f" + strconv.Itoa(i), Kind: kind})
	}
	return m
}

// full is a model with as much of everything as is allowed.
func full() api.Model {
	m := wide(api.MaxFeatures, api.Member)
	for i := 1; i < api.MaxFeatures; i++ {
		m.Groups = append(m.Groups, api.Group{Low: 0, High: 1, Members: []int{i}})
	}
	for k := range api.MaxAttributes {
		a := api.Attribute{Name: "f" + strconv.Itoa(k), Values: make([]int64, api.MaxFeatures)}
		a.Values[k], a.Values[k+1] = api.MaxCost, -api.MaxCost
		m.Attributes = append(m.Attributes, a)
	}
	for k := range api.MaxRequires {
		m.Requires = append(m.Requires, node(api.OpImplies, name("f"+strconv.Itoa(k%24)), name("f"+strconv.Itoa(k*7%24))))
	}
	for k := range api.MaxLimits {
		m.Limits = append(m.Limits, api.Limit{Attribute: k % 8, Rel: uint8(1 + k%3), Bound: int64(k%3-1) << 62})
	}
	return m
}

func TestCheckAccepts(t *testing.T) {
	long := parsed(t, phone)
	long.Features[2].Name = strings.Repeat("_9aZ", 8)
	long.Requires[0] = node(api.OpNot, name(long.Features[2].Name))
	for _, m := range append(models(t, 50), full(), long, wide(24, api.Mandatory), wide(24, api.Optional)) {
		if e := model.Check(m); e != api.OK {
			t.Errorf("Check: %v for %s", e, shaped(m))
		}
	}
}

// loop is a formula that has itself as its kid.
func loop() api.Expr {
	kids := []api.Expr{{Op: api.OpNot}}
	kids[0].Kids = kids
	return kids[0]
}

// tower is a name below so many OpNot.
func tower(nots int, e api.Expr) api.Expr {
	for range nots {
		e = node(api.OpNot, e)
	}
	return e
}

// fault changes a model so that it has an error.
type fault struct {
	what   string
	want   api.Errno
	change func(m *api.Model)
}

// faults are changes of the phone's model, in the order in which their errors come.
func faults() []fault {
	return slices.Concat(featureFaults(), groupFaults(), attributeFaults(), requireFaults(), limitFaults())
}

func featureFaults() []fault {
	change := func(i int, name string, parent int, kind uint8) func(m *api.Model) {
		return func(m *api.Model) { m.Features[i] = feature(name, parent, kind) }
	}
	return []fault{
		{"no features", api.ErrArg, func(m *api.Model) { m.Features = nil }},
		{"too many features", api.ErrLimit, func(m *api.Model) { m.Features = wide(25, api.Optional).Features }},
		{"too many bad features", api.ErrLimit, func(m *api.Model) { m.Features = make([]api.Feature, 25) }},
		{"no name", api.ErrName, change(0, "", 5, 9)},
		{"a root of another kind", api.ErrArg, change(0, "Phone", -1, api.Optional)},
		{"a root of kind 0", api.ErrArg, change(0, "Phone", -1, 0)},
		{"a root with a parent", api.ErrArg, change(0, "Phone", 0, api.Root)},
		{"a root with the parent -2", api.ErrArg, change(0, "Phone", -2, api.Root)},
		{"a long name", api.ErrName, change(1, strings.Repeat("a", 33), 0, api.Mandatory)},
		{"a name with a digit first", api.ErrName, change(1, "1", 0, api.Mandatory)},
		{"a name with a blank", api.ErrName, change(1, "a b", 0, api.Mandatory)},
		{"a name with another letter", api.ErrName, change(1, "ä", 0, api.Mandatory)},
		{"a name twice", api.ErrTwice, change(1, "Phone", 1, api.Root)},
		{"a second root", api.ErrArg, change(1, "x", -1, api.Root)},
		{"another root with a parent", api.ErrArg, change(1, "x", 0, api.Root)},
		{"a kind that is none", api.ErrArg, change(1, "x", 0, 5)},
		{"a feature that is its own parent", api.ErrArg, change(1, "x", 1, api.Optional)},
		{"a later parent", api.ErrArg, change(1, "x", 2, api.Mandatory)},
		{"no parent", api.ErrArg, change(1, "x", -1, api.Optional)},
		{"a bad feature before a bad name", api.ErrArg, func(m *api.Model) { m.Features[1].Parent, m.Features[2].Name = 7, "" }},
	}
}

func groupFaults() []fault {
	group := func(parent, low, high int, members ...int) func(m *api.Model) {
		return func(m *api.Model) { m.Groups[0] = api.Group{Parent: parent, Low: low, High: high, Members: members} }
	}
	another := func(g api.Group) func(m *api.Model) { return func(m *api.Model) { m.Groups = append(m.Groups, g) } }
	return []fault{
		{"too many groups", api.ErrLimit, func(m *api.Model) { m.Groups = make([]api.Group, 25) }},
		{"24 bad groups", api.ErrArg, func(m *api.Model) { m.Groups = make([]api.Group, 24) }},
		{"a group without parent", api.ErrArg, group(-1, 1, 1, 3, 4)},
		{"a group with a parent that is none", api.ErrArg, group(5, 1, 1, 3, 4)},
		{"a group without members", api.ErrArg, group(1, 0, 0)},
		{"another group without members", api.ErrArg, another(api.Group{Parent: 1})},
		{"a member -1", api.ErrArg, group(1, 1, 1, 3, 4, -1)},
		{"a member that is none", api.ErrArg, group(1, 1, 1, 3, 4, 5)},
		{"a member far off", api.ErrArg, group(1, 1, 1, 3, 4, -1<<63)},
		{"a member that is mandatory", api.ErrArg, group(0, 1, 1, 1)},
		{"a member that is optional", api.ErrArg, group(0, 1, 1, 2)},
		{"a member that is the root", api.ErrArg, group(0, 1, 1, 0)},
		{"members of another parent", api.ErrArg, group(0, 1, 1, 3, 4)},
		{"a member twice", api.ErrArg, group(1, 1, 1, 3, 4, 3)},
		{"a member of two groups", api.ErrArg, another(api.Group{Parent: 1, Low: 0, High: 1, Members: []int{3}})},
		{"low below 0", api.ErrArg, group(1, -1, 1, 3, 4)},
		{"high below low", api.ErrArg, group(1, 2, 1, 3, 4)},
		{"high too high", api.ErrArg, group(1, 1, 3, 3, 4)},
		{"a member without group", api.ErrArg, group(1, 1, 1, 4)},
		{"members without groups", api.ErrArg, func(m *api.Model) { m.Groups = nil }},
	}
}

func attributeFaults() []fault {
	attribute := func(name string, values ...int64) func(m *api.Model) {
		return func(m *api.Model) { m.Attributes = append(m.Attributes, api.Attribute{Name: name, Values: values}) }
	}
	return []fault{
		{"too many attributes", api.ErrLimit, func(m *api.Model) { m.Attributes = make([]api.Attribute, 9) }},
		{"an attribute without name", api.ErrName, attribute("", 1)},
		{"an attribute with a bad name", api.ErrName, attribute("a-b", 0, 0, 0, 0, 0)},
		{"an attribute twice", api.ErrTwice, attribute("price", 1)},
		{"no values", api.ErrArg, attribute("x")},
		{"too few values", api.ErrArg, attribute("x", 1, 2, 3, 4)},
		{"too many values", api.ErrArg, attribute("x", 1, 2, 3, 4, 5, 6)},
		{"a value too great", api.ErrArg, attribute("x", 1, 2, 3, 4, api.MaxCost+1)},
		{"a value too small", api.ErrArg, attribute("x", -api.MaxCost-1, 2, 3, 4, 5)},
		{"the least value", api.ErrArg, attribute("x", 0, 0, -1<<63, 0, 0)},
	}
}

func requireFaults() []fault {
	require := func(l ...api.Expr) func(m *api.Model) { return func(m *api.Model) { m.Requires = l } }
	return []fault{
		{"too many requirements", api.ErrLimit, require(slices.Repeat([]api.Expr{node(api.OpNot)}, 65)...)},
		{"64 bad requirements", api.ErrArg, require(slices.Repeat([]api.Expr{node(api.OpNot)}, 64)...)},
		{"no formula", api.ErrArg, require(api.Expr{})},
		{"a formula that is not valid", api.ErrArg, require(node(api.OpTrue), node(api.OpAnd, name("x")))},
		{"too many levels", api.ErrArg, require(tower(64, name("Phone")))},
		{"endless levels", api.ErrArg, require(loop())},
		{"too many nodes", api.ErrArg, require(node(api.OpOr, slices.Repeat([]api.Expr{name("Phone")}, 1000)...))},
		{"an unknown name", api.ErrName, require(node(api.OpOr, name("Phone"), name("x")))},
		{"an attribute's name", api.ErrName, require(name("price"), node(api.OpNot))},
	}
}

func limitFaults() []fault {
	limit := func(l ...api.Limit) func(m *api.Model) { return func(m *api.Model) { m.Limits = l } }
	return []fault{
		{"too many limits", api.ErrLimit, limit(make([]api.Limit, 17)...)},
		{"16 bad limits", api.ErrArg, limit(make([]api.Limit, 16)...)},
		{"a limit of no attribute", api.ErrArg, limit(api.Limit{Attribute: 1, Rel: api.AtMost})},
		{"a limit of the attribute -1", api.ErrArg, limit(api.Limit{Attribute: -1, Rel: api.AtMost})},
		{"no relation", api.ErrArg, limit(api.Limit{})},
		{"a relation that is none", api.ErrArg, limit(api.Limit{Rel: api.Equal}, api.Limit{Rel: 4})},
	}
}

func TestCheckRefuses(t *testing.T) {
	for _, f := range faults() {
		m := parsed(t, phone)
		f.change(&m)
		if e := model.Check(m); e != f.want {
			t.Errorf("%s: %v, want %v", f.what, e, f.want)
		}
	}
	if e := model.Check(api.Model{}); e != api.ErrArg {
		t.Errorf("no model: %v", e)
	}
}

// The errors of a list come before those of the lists behind it.
func TestCheckOrder(t *testing.T) {
	lists := [][]fault{featureFaults(), groupFaults(), attributeFaults(), requireFaults(), limitFaults()}
	for k, l := range lists {
		for _, f := range l {
			for _, later := range slices.Concat(lists[k+1:]...) {
				m := parsed(t, phone)
				later.change(&m)
				f.change(&m)
				if e := model.Check(m); e != f.want {
					t.Errorf("%s, and %s: %v, want %v", f.what, later.what, e, f.want)
				}
			}
		}
	}
}

// Every function returns the error of Check before all others, and nothing with it.
func TestErrorOfCheck(t *testing.T) {
	for _, f := range faults() {
		m := parsed(t, phone)
		f.change(&m)
		for what, e := range errorsWithZero(t, m, 99) {
			if e != f.want {
				t.Errorf("%s: %s: %v, want %v", f.what, what, e, f.want)
			}
		}
	}
}

// errorsWithZero calls all functions that get a model, those with a number with one that is wrong, and returns their
// errors. It fails if one returns anything else.
func errorsWithZero(t *testing.T, m api.Model, wrong int) map[string]api.Errno {
	t.Helper()
	errs := map[string]api.Errno{}
	note := func(what string, zero bool, e api.Errno) {
		t.Helper()
		errs[what] = e
		if !zero {
			t.Errorf("%s returns something with %v", what, e)
		}
	}
	text, e := model.Print(m)
	note("Print", text == "", e)
	rules, e := model.Rules(m)
	note("Rules", len(rules) == 0, e)
	d, e := model.RuleSet(m, wrong)
	note("RuleSet", d.Empty(), e)
	text, e = model.RuleText(m, wrong)
	note("RuleText", text == "", e)
	d, e = model.Diagram(m)
	note("Diagram", d.Empty(), e)
	l, e := model.Broken(m, 0)
	note("Broken", len(l) == 0, e)
	a, e := model.Analyse(m)
	note("Analyse", !a.Void && a.Count == 0 && a.Core|a.Dead|a.FalseOptional == 0 && len(a.Redundant)+len(a.Atomic) == 0, e)
	shares, e := model.Shares(m)
	note("Shares", len(shares) == 0, e)
	pairs, e := model.Implications(m)
	note("Implications", len(pairs) == 0, e)
	l, e = model.Why(m, diagram.True())
	note("Why", len(l) == 0, e)
	l, e = model.WhyDead(m, wrong)
	note("WhyDead", len(l) == 0, e)
	l, e = model.WhyCore(m, wrong)
	note("WhyCore", len(l) == 0, e)
	l, e = model.WhyFalse(m, wrong)
	note("WhyFalse", len(l) == 0, e)
	l, e = model.WhyRedundant(m, wrong)
	note("WhyRedundant", len(l) == 0, e)
	cost, e := model.Cost(m, wrong, 1)
	note("Cost", cost == 0, e)
	c, cost, e := model.Cheapest(m, wrong)
	note("Cheapest", c == 0 && cost == 0, e)
	k, e := model.Rank(m, 0)
	note("Rank", k == 0, e)
	c, e = model.Unrank(m, 0)
	note("Unrank", c == 0, e)
	clauses, e := model.Clauses(m)
	note("Clauses", len(clauses) == 0, e)
	return errs
}

func TestNames(t *testing.T) {
	if l := model.Names(parsed(t, phone)); !slices.Equal(l, []string{"Phone", "Screen", "Gps", "Basic", "Colour"}) {
		t.Errorf("Names: %v", l)
	}
	bad := api.Model{Features: []api.Feature{{Name: "b"}, {Name: ""}, {Name: "b"}, {Name: "1 2"}}}
	if l := model.Names(bad); !slices.Equal(l, []string{"b", "", "b", "1 2"}) {
		t.Errorf("Names of a model that is not valid: %q", l)
	}
	if l := model.Names(api.Model{}); len(l) != 0 {
		t.Errorf("Names of no model: %q", l)
	}
	if l := model.Names(wide(30, 0)); len(l) != 30 || l[29] != "f29" {
		t.Errorf("Names of too many features: %q", l)
	}
}

func TestSame(t *testing.T) {
	l := append(models(t, 30), api.Model{}, full(), wide(40, 77))
	for i, a := range l {
		for k, b := range l {
			if want := i == k || shaped(a) == shaped(b) && model.Check(a) == api.OK; model.Same(a, clone(b)) != want {
				t.Errorf("Same: %t for %s and %s", !want, shaped(a), shaped(b))
			}
		}
	}
}

// Each field makes a difference, in models that are valid and in others.
func TestSameDiffers(t *testing.T) {
	for k, change := range []func(m *api.Model){
		func(m *api.Model) { m.Features[2].Name = "gps" },
		func(m *api.Model) { m.Features[2].Parent = 1 },
		func(m *api.Model) { m.Features[2].Kind = api.Mandatory },
		func(m *api.Model) { m.Features = m.Features[:4] },
		func(m *api.Model) { m.Groups[0].Parent = 0 },
		func(m *api.Model) { m.Groups[0].Low = 0 },
		func(m *api.Model) { m.Groups[0].High = 2 },
		func(m *api.Model) { m.Groups[0].Members[0], m.Groups[0].Members[1] = 4, 3 },
		func(m *api.Model) { m.Groups[0].Members = m.Groups[0].Members[:1] },
		func(m *api.Model) { m.Groups = nil },
		func(m *api.Model) { m.Attributes[0].Name = "cost" },
		func(m *api.Model) { m.Attributes[0].Values[0] = 1 },
		func(m *api.Model) { m.Attributes[0].Values = nil },
		func(m *api.Model) { m.Attributes = append(m.Attributes, m.Attributes[0]) },
		func(m *api.Model) { m.Requires[0].Op = api.OpAnd },
		func(m *api.Model) { m.Requires[0].Kids[1].Name = "Basic" },
		func(m *api.Model) { m.Requires = append(m.Requires, loop()) },
		func(m *api.Model) { m.Limits[0].Attribute = 1 },
		func(m *api.Model) { m.Limits[0].Rel = 2 },
		func(m *api.Model) { m.Limits[0].Bound = 31 },
		func(m *api.Model) { m.Limits = m.Limits[:0] },
	} {
		a, b := parsed(t, phone), parsed(t, phone)
		if !model.Same(a, b) {
			t.Error("a model is not the same")
		}
		change(&b)
		if model.Same(a, b) || model.Same(b, a) {
			t.Errorf("change %d makes no difference", k)
		}
		if !model.Same(b, b) {
			t.Errorf("change %d: not the same as itself", k)
		}
	}
}

func TestSameNilAndEmpty(t *testing.T) {
	a := api.Model{Groups: []api.Group{{}}, Attributes: []api.Attribute{{}}}
	b := api.Model{
		Features:   []api.Feature{},
		Groups:     []api.Group{{Members: []int{}}},
		Attributes: []api.Attribute{{Values: []int64{}}},
		Requires:   []api.Expr{},
		Limits:     []api.Limit{},
	}
	if !model.Same(a, b) {
		t.Error("nil and empty lists are not the same")
	}
}
