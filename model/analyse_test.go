package model_test

import (
	"slices"
	"testing"

	"motley/api"
	"motley/model"
)

// P3.6

func sameAnalysis(a, b model.Analysis) bool {
	return a.Void == b.Void && a.Count == b.Count && a.Core == b.Core && a.Dead == b.Dead &&
		a.FalseOptional == b.FalseOptional && slices.Equal(a.Redundant, b.Redundant) && slices.Equal(a.Atomic, b.Atomic)
}

// analysis is what the chapter's definitions say of a model.
func (x truth) analysis() model.Analysis {
	a := model.Analysis{Void: len(x.products) == 0}
	if a.Void {
		return a
	}
	a.Count = uint64(len(x.products))
	for i, f := range x.Features {
		if x.core(i) {
			a.Core |= 1 << i
		}
		if x.dead(i) {
			a.Dead |= 1 << i
		} else if (f.Kind == api.Optional || f.Kind == api.Member) && x.implies(f.Parent, i) {
			a.FalseOptional |= 1 << i
		}
	}
	for k, r := range wantRules(x.Model) {
		if (r.Kind == api.RuleRequire || r.Kind == api.RuleLimit) && x.redundant(k) {
			a.Redundant = append(a.Redundant, k)
		}
	}
	a.Atomic = x.atomic()
	return a
}

// redundant reports whether no configuration breaks this rule alone.
func (x truth) redundant(k int) bool {
	for _, broken := range x.broken {
		if slices.Equal(broken, []int{k}) {
			return false
		}
	}
	return true
}

// atomic puts each feature that is not dead to the first one with which it always occurs.
func (x truth) atomic() []uint32 {
	var l []uint32
	first := map[int]int{} // by feature: the index of its set
	for i := range x.Features {
		if x.dead(i) {
			continue
		}
		first[i] = len(l)
		for k := range i {
			if !x.dead(k) && x.implies(i, k) && x.implies(k, i) {
				first[i] = min(first[i], first[k])
			}
		}
		if first[i] == len(l) {
			l = append(l, 0)
		}
		l[first[i]] |= 1 << i
	}
	return l
}

func TestAnalyse(t *testing.T) {
	want := model.Analysis{Count: 3, Core: 3, Redundant: []int{9}, Atomic: []uint32{3, 4, 8, 16}}
	if a, e := model.Analyse(parsed(t, phone)); !sameAnalysis(a, want) || e != api.OK {
		t.Errorf("Analyse: %v, %v", a, e)
	}
	for _, m := range models(t, 400) {
		want := truthOf(m).analysis()
		if a, e := model.Analyse(m); !sameAnalysis(a, want) || e != api.OK {
			t.Errorf("Analyse: %v, %v, want %v for %s", a, e, want, shaped(m))
		}
	}
}

func TestAnalyseSpecial(t *testing.T) {
	for text, want := range map[string]model.Analysis{
		"root a":            {Count: 1, Core: 1, Atomic: []uint32{1}},
		"root a\nrequire a": {Count: 1, Core: 1, Atomic: []uint32{1}, Redundant: []int{1}},
		"root a\nrequire 1": {Count: 1, Core: 1, Atomic: []uint32{1}, Redundant: []int{1}},
		"root a\nrequire 0": {Void: true},
		"root a\noptional a b\nrequire b\nrequire b":                  {Count: 1, Core: 3, FalseOptional: 2, Redundant: []int{2, 3}, Atomic: []uint32{3}},
		"root a\noptional a b\noptional b c\nrequire b => c":          {Count: 2, Core: 1, FalseOptional: 4, Atomic: []uint32{1, 6}},
		"root a\noptional a b\noptional b c\nrequire !b":              {Count: 1, Core: 1, Dead: 6, Atomic: []uint32{1}},
		"root a\nmember a b\nmember a c\ngroup a 1 2 b c\nrequire !b": {Count: 1, Core: 5, Dead: 2, FalseOptional: 4, Atomic: []uint32{5}},
		"root a\nmember a b\ngroup a 0 0 b":                           {Count: 1, Core: 1, Dead: 2, Atomic: []uint32{1}},
		"root a\noptional a b\nattribute p\nvalue p b 3\nlimit p <= 3\nlimit p <= 2\nlimit p <= 1\nlimit p >= 0": {
			Count: 1, Core: 1, Dead: 2, Redundant: []int{2, 3, 4, 5}, Atomic: []uint32{1},
		},
	} {
		if a, e := model.Analyse(parsed(t, text)); !sameAnalysis(a, want) || e != api.OK {
			t.Errorf("Analyse of %q: %v, %v", text, a, e)
		}
	}
}

func TestAnalyseAllFeatures(t *testing.T) {
	a, e := model.Analyse(wide(24, api.Optional))
	if e != api.OK || a.Count != 1<<23 || a.Core != 1 || a.Dead|a.FalseOptional != 0 || len(a.Atomic) != 24 {
		t.Errorf("Analyse of 23 optional features: %v, %v", a, e)
	}
	a, e = model.Analyse(wide(24, api.Mandatory))
	if e != api.OK || !sameAnalysis(a, model.Analysis{Count: 1, Core: 1<<24 - 1, Atomic: []uint32{1<<24 - 1}}) {
		t.Errorf("Analyse of 23 mandatory features: %v, %v", a, e)
	}
}

// P3.7

func TestShares(t *testing.T) {
	if l, e := model.Shares(parsed(t, phone)); !slices.Equal(l, []uint64{3, 3, 1, 1, 2}) || e != api.OK {
		t.Errorf("Shares: %v, %v", l, e)
	}
	for _, m := range models(t, 200) {
		x := truthOf(m)
		var want []uint64
		for i := range x.n {
			want = append(want, uint64(x.count(func(c uint32) bool { return has(c, i) })))
		}
		if l, e := model.Shares(m); !slices.Equal(l, want) || e != api.OK {
			t.Errorf("Shares: %v, %v, want %v for %s", l, e, want, shaped(m))
		}
	}
}

func TestImplications(t *testing.T) {
	if l, e := model.Implications(parsed(t, phone)); !slices.Equal(l, []model.Pair{{From: 2, To: 4}}) || e != api.OK {
		t.Errorf("Implications: %v, %v", l, e)
	}
	for _, m := range models(t, 200) {
		x := truthOf(m)
		var want []model.Pair
		for i := range x.n {
			for k := range x.n {
				if i != k && !x.dead(i) && !x.core(k) && x.implies(i, k) {
					want = append(want, model.Pair{From: i, To: k})
				}
			}
		}
		if l, e := model.Implications(m); !slices.Equal(l, want) || e != api.OK {
			t.Errorf("Implications: %v, %v, want %v for %s", l, e, want, shaped(m))
		}
	}
}

// P3.14

func TestCounts(t *testing.T) {
	for _, m := range models(t, 150) {
		a, _ := model.Analyse(m)
		shares, _ := model.Shares(m)
		for i, share := range shares {
			if (share == a.Count) != (a.Void || has(a.Core, i)) || (share == 0) != (a.Void || has(a.Dead, i)) {
				t.Errorf("the share %d of the feature %d of %d for %s", share, i, a.Count, shaped(m))
			}
			for _, set := range a.Atomic {
				for k, other := range shares {
					if has(set, i) && has(set, k) && share != other {
						t.Errorf("the shares %d and %d in the atomic set %b for %s", share, other, set, shaped(m))
					}
				}
			}
		}
		for _, k := range a.Redundant {
			before, _ := model.Diagram(m)
			if after, e := model.Diagram(without(m, k)); e != api.OK || !after.Same(before) {
				t.Errorf("the rule %d is not redundant (%v) for %s", k, e, shaped(m))
			}
		}
	}
}

// without is the model without the requirement or limit of a rule.
func without(m api.Model, k int) api.Model {
	m = clone(m)
	r := wantRules(m)[k]
	if r.Kind == api.RuleRequire {
		m.Requires = slices.Delete(m.Requires, r.Index, r.Index+1)
	} else {
		m.Limits = slices.Delete(m.Limits, r.Index, r.Index+1)
	}
	return m
}
