package model_test

import (
	"slices"
	"strconv"
	"testing"

	"motley/api"
	"motley/diagram"
	"motley/model"
)

// P3.4

func TestRules(t *testing.T) {
	want := []api.Rule{
		rule(api.RuleRoot, 0), rule(api.RuleChild, 1), rule(api.RuleMandatory, 1), rule(api.RuleChild, 2), rule(api.RuleChild, 3),
		rule(api.RuleChild, 4), rule(api.RuleLow, 0), rule(api.RuleHigh, 0), rule(api.RuleRequire, 0), rule(api.RuleLimit, 0),
	}
	if l, e := model.Rules(parsed(t, phone)); !slices.Equal(l, want) || e != api.OK {
		t.Errorf("Rules: %v, %v", l, e)
	}
	for _, m := range append(models(t, 100), full()) {
		if l, e := model.Rules(m); !slices.Equal(l, wantRules(m)) || e != api.OK {
			t.Errorf("Rules: %v, %v for %s", l, e, shaped(m))
		}
	}
}

func TestRuleText(t *testing.T) {
	m := parsed(t, "root r\nmandatory r a\noptional a b\nmember r c\nmember r d\nmember b e\ngroup r 0 2 d c\ngroup b 1 1 e\n"+
		"attribute p\nrequire a=>(b|0)\nrequire 1\nlimit p >= -3\nlimit p = 0\nlimit p <= 9223372036854775807")
	for k, want := range []string{
		"root r", "a needs r", "r needs a", "b needs a", "c needs r", "d needs r", "e needs b",
		"r has at least 0 of d c", "r has at most 2 of d c", "b has at least 1 of e", "b has at most 1 of e",
		"require a => b | 0", "require 1", "limit p >= -3", "limit p = 0", "limit p <= 9223372036854775807",
	} {
		if s, e := model.RuleText(m, k); s != want || e != api.OK {
			t.Errorf("RuleText(%d): %q, %v, want %q", k, s, e, want)
		}
	}
}

func TestRuleSet(t *testing.T) {
	for _, m := range models(t, 60) {
		n := len(m.Features)
		for k, r := range wantRules(m) {
			d, e := model.RuleSet(m, k)
			if e != api.OK || d.Support()>>n != 0 {
				t.Errorf("RuleSet(%d): %v, on %x for %s", k, e, d.Support(), shaped(m))
			}
			for c := range uint32(1) << n {
				if d.Has(c) != holds(m, r, c) {
					t.Errorf("RuleSet(%d) has %b: %t for %s", k, c, d.Has(c), shaped(m))
				}
			}
		}
	}
}

// The sets of rules of a model with all features.
func TestRuleSetOfAllFeatures(t *testing.T) {
	m := full()
	for _, c := range []uint32{0, 1, 1 << 23, 1<<23 | 1, 1<<24 - 1, 0x555555, 0xaaaaaa} {
		for k, r := range wantRules(m) {
			if d, e := model.RuleSet(m, k); e != api.OK || d.Has(c) != holds(m, r, c) {
				t.Errorf("RuleSet(%d) has %b: %t, %v", k, c, d.Has(c), e)
			}
		}
	}
}

func TestNoSuchRule(t *testing.T) {
	for _, m := range models(t, 10) {
		n := len(wantRules(m))
		for _, k := range []int{-1, n, n + 1, -1 << 63, 1<<63 - 1} {
			if d, e := model.RuleSet(m, k); e != api.ErrRange || !d.Empty() {
				t.Errorf("RuleSet(%d): %v", k, e)
			}
			if s, e := model.RuleText(m, k); e != api.ErrRange || s != "" {
				t.Errorf("RuleText(%d): %q, %v", k, s, e)
			}
			if l, e := model.WhyRedundant(m, k); e != api.ErrRange || len(l) != 0 {
				t.Errorf("WhyRedundant(%d): %v, %v", k, l, e)
			}
		}
		if _, e := model.RuleText(m, n-1); e != api.OK {
			t.Errorf("RuleText of the last rule: %v", e)
		}
	}
}

// P3.5

func TestDiagram(t *testing.T) {
	d, e := model.Diagram(parsed(t, phone))
	if got := slices.Collect(d.All(5)); e != api.OK || !slices.Equal(got, []uint32{11, 19, 23}) {
		t.Errorf("Diagram: %v, %v", got, e)
	}
	for _, m := range models(t, 200) {
		x := truthOf(m)
		d, e := model.Diagram(m)
		if got := slices.Collect(d.All(x.n)); e != api.OK || !slices.Equal(got, x.products) || d.Support()>>x.n != 0 {
			t.Errorf("Diagram: %v, %v for %s", got, e, shaped(m))
		}
	}
	if d, e := model.Diagram(wide(24, api.Optional)); e != api.OK || !d.Same(diagram.Cube(1, 0)) {
		t.Errorf("Diagram of 23 optional features: %d, %v", d.Size(), e)
	}
	if d, e := model.Diagram(wide(24, api.Mandatory)); e != api.OK || !d.Same(diagram.Cube(1<<24-1, 0)) {
		t.Errorf("Diagram of 23 mandatory features: %d, %v", d.Size(), e)
	}
}

func TestBroken(t *testing.T) {
	if l, e := model.Broken(parsed(t, phone), 15); !slices.Equal(l, []int{8}) || e != api.OK {
		t.Errorf("Broken: %v, %v", l, e)
	}
	for _, m := range models(t, 60) {
		n := len(m.Features)
		for c := range uint32(1) << n {
			want := brokenBy(m, c)
			for _, more := range []uint32{0, 1 << n, ^uint32(0) << n} {
				if l, e := model.Broken(m, c|more); !slices.Equal(l, want) || e != api.OK {
					t.Errorf("Broken of %b: %v, %v, want %v for %s", c|more, l, e, want, shaped(m))
				}
			}
		}
	}
}

// Sums of 24 values, at and beside the bound.
func TestGreatSums(t *testing.T) {
	for _, value := range []int64{api.MaxCost, -api.MaxCost} {
		m := wide(24, api.Optional)
		m.Attributes = []api.Attribute{{Name: "a", Values: slices.Repeat([]int64{value}, 24)}}
		for _, bound := range []int64{24 * value, 24*value - 1, 24*value + 1, -1 << 63, 1<<63 - 1} {
			m.Limits = []api.Limit{{Rel: api.AtMost, Bound: bound}, {Rel: api.AtLeast, Bound: bound}, {Rel: api.Equal, Bound: bound}}
			all := ^uint32(0)
			want := brokenBy(m, all)
			if l, e := model.Broken(m, all); !slices.Equal(l, want) || e != api.OK {
				t.Errorf("Broken with %d of %d: %v, %v, want %v", 24*value, bound, l, e, want)
			}
			for k := range 3 {
				broken := slices.Contains(want, 24+k)
				if d, e := model.RuleSet(m, 24+k); d.Has(all) == broken || e != api.OK {
					t.Errorf("RuleSet(%d) with %d of %d: %t, %v", 24+k, 24*value, bound, !broken, e)
				}
			}
		}
	}
}

// R4: results share no memory with the model, and each call makes new ones.
func TestNewMemory(t *testing.T) {
	m := parsed(t, phone)
	before := clone(m)
	for range 2 {
		names := model.Names(m)
		rules, _ := model.Rules(m)
		a, _ := model.Analyse(m)
		shares, _ := model.Shares(m)
		clauses, _ := model.Clauses(m)
		if names[0] != "Phone" || rules[0].Kind != api.RuleRoot || a.Redundant[0] != 9 || a.Atomic[0] != 3 || shares[0] != 3 || clauses[0][0] != 1 {
			t.Error("a result is not new")
		}
		names[0], rules[0].Kind, a.Redundant[0], a.Atomic[0], shares[0], clauses[0][0] = "", 0, 0, 0, 0, 0
	}
	if !model.Same(m, before) {
		t.Errorf("the model is changed: %v", m)
	}
}

// Members stand in the text in their own order, and group by group.
func TestManyGroups(t *testing.T) {
	m := full()
	for i := 1; i < 24; i++ {
		k := 1 + 23 + 2*(i-1)
		for side, bound := range []string{"least 0", "most 1"} {
			want := "f0 has at " + bound + " of f" + strconv.Itoa(i)
			if s, e := model.RuleText(m, k+side); s != want || e != api.OK {
				t.Errorf("RuleText(%d): %q, %v", k+side, s, e)
			}
		}
	}
}
