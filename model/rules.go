package model

import (
	"math/bits"
	"strconv"
	"strings"

	"motley/api"
	"motley/diagram"
	"motley/formula"
)

// Rules returns the rules of a model.
func Rules(m api.Model) ([]api.Rule, api.Errno) {
	if e := Check(m); e != api.OK {
		return nil, e
	}
	return rulesOf(m), api.OK
}

// rulesOf returns the rules of a valid model.
func rulesOf(m api.Model) []api.Rule {
	l := []api.Rule{{Kind: api.RuleRoot}}
	for i, f := range m.Features {
		if i > 0 {
			l = append(l, api.Rule{Kind: api.RuleChild, Index: i})
		}
		if f.Kind == api.Mandatory {
			l = append(l, api.Rule{Kind: api.RuleMandatory, Index: i})
		}
	}
	for i := range m.Groups {
		l = append(l, api.Rule{Kind: api.RuleLow, Index: i}, api.Rule{Kind: api.RuleHigh, Index: i})
	}
	for i := range m.Requires {
		l = append(l, api.Rule{Kind: api.RuleRequire, Index: i})
	}
	for i := range m.Limits {
		l = append(l, api.Rule{Kind: api.RuleLimit, Index: i})
	}
	return l
}

// checkRule returns the rule with this number, or the error of the model, or of the number.
func checkRule(m api.Model, rule int) (api.Rule, api.Errno) {
	l, e := Rules(m)
	switch {
	case e != api.OK:
		return api.Rule{}, e
	case !isIndex(rule, len(l)):
		return api.Rule{}, api.ErrRange
	}
	return l[rule], api.OK
}

// RuleSet returns the set of the configurations for which a rule holds.
func RuleSet(m api.Model, rule int) (diagram.D, api.Errno) {
	r, e := checkRule(m, rule)
	if e != api.OK {
		return diagram.D{}, e
	}
	return setOf(m, r), api.OK
}

// RuleText returns a text of a rule.
func RuleText(m api.Model, rule int) (string, api.Errno) {
	r, e := checkRule(m, rule)
	if e != api.OK {
		return "", e
	}
	return textOf(m, r), api.OK
}

// Diagram returns the set of a model.
func Diagram(m api.Model) (diagram.D, api.Errno) {
	if e := Check(m); e != api.OK {
		return diagram.D{}, e
	}
	return diagram.AndAll(setsOf(m)...), api.OK
}

// Broken returns the numbers of the rules that do not hold for a configuration.
func Broken(m api.Model, c uint32) ([]int, api.Errno) {
	rules, e := Rules(m)
	if e != api.OK {
		return nil, e
	}
	var l []int
	for k, r := range rules {
		if !holds(m, r, c) {
			l = append(l, k)
		}
	}
	return l, api.OK
}

// setsOf returns the sets of all rules of a valid model.
func setsOf(m api.Model) []diagram.D {
	var l []diagram.D
	for _, r := range rulesOf(m) {
		l = append(l, setOf(m, r))
	}
	return l
}

func setOf(m api.Model, r api.Rule) diagram.D {
	switch r.Kind {
	case api.RuleRequire:
		d, _ := formula.Diagram(m.Requires[r.Index], Names(m))
		return d
	case api.RuleLimit:
		l := m.Limits[r.Index]
		d, _ := diagram.Linear(m.Attributes[l.Attribute].Values, l.Rel, l.Bound)
		return d
	}
	s := spanOf(m, r)
	return diagram.Cube(s.when, 0).Not().Or(diagram.Between(s.of, s.low, s.high))
}

// holds says the same as setOf for one configuration, for which a diagram of a limit would be far too much work.
func holds(m api.Model, r api.Rule, c uint32) bool {
	switch r.Kind {
	case api.RuleRequire:
		is, _ := formula.Eval(m.Requires[r.Index], Names(m), c)
		return is
	case api.RuleLimit:
		l := m.Limits[r.Index]
		return related(costOf(m, l.Attribute, c), l.Rel, l.Bound)
	}
	s := spanOf(m, r)
	count := bits.OnesCount32(c & s.of)
	return c&s.when != s.when || s.low <= count && count <= s.high
}

func related(cost int64, rel uint8, bound int64) bool {
	switch rel {
	case api.AtMost:
		return cost <= bound
	case api.AtLeast:
		return cost >= bound
	}
	return cost == bound
}

// span is what a rule of the tree or of a group says: if the features of when are selected (there is at most one),
// then at least low and at most high features of another set are.
type span struct {
	when, of  uint32
	low, high int
}

func spanOf(m api.Model, r api.Rule) span {
	own := uint32(1) << r.Index
	switch r.Kind {
	case api.RuleChild:
		return span{own, 1 << m.Features[r.Index].Parent, 1, 1}
	case api.RuleMandatory:
		return span{1 << m.Features[r.Index].Parent, own, 1, 1}
	case api.RuleLow:
		g := m.Groups[r.Index]
		return span{1 << g.Parent, members(g), g.Low, len(g.Members)}
	case api.RuleHigh:
		g := m.Groups[r.Index]
		return span{1 << g.Parent, members(g), 0, g.High}
	}
	return span{0, own, 1, 1} // the root
}

func textOf(m api.Model, r api.Rule) string {
	name := func(i int) string { return m.Features[i].Name }
	switch i := r.Index; r.Kind {
	case api.RuleChild:
		return name(i) + " needs " + name(m.Features[i].Parent)
	case api.RuleMandatory:
		return name(m.Features[i].Parent) + " needs " + name(i)
	case api.RuleLow:
		return boundText(m, m.Groups[i], "least", m.Groups[i].Low)
	case api.RuleHigh:
		return boundText(m, m.Groups[i], "most", m.Groups[i].High)
	case api.RuleRequire:
		return requireText(m.Requires[i])
	case api.RuleLimit:
		return limitText(m, m.Limits[i])
	}
	return "root " + name(r.Index)
}

func boundText(m api.Model, g api.Group, side string, bound int) string {
	return m.Features[g.Parent].Name + " has at " + side + " " + strconv.Itoa(bound) + " of " + memberText(m, g)
}

// memberText is the names of the members of a group.
func memberText(m api.Model, g api.Group) string {
	var l []string
	for _, i := range g.Members {
		l = append(l, m.Features[i].Name)
	}
	return strings.Join(l, " ")
}

func requireText(e api.Expr) string {
	s, _ := formula.Print(e)
	return "require " + s
}

func limitText(m api.Model, l api.Limit) string {
	return "limit " + m.Attributes[l.Attribute].Name + " " + relationSign(l.Rel) + " " + strconv.FormatInt(l.Bound, 10)
}
