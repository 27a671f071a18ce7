package check

import (
	"cmp"
	"slices"

	"motley/api"
	"motley/diagram"
)

// key is what tells facts apart.
type key struct {
	tok   int
	kind  uint8
	other int
}

func (f Fact) key() key { return key{f.Tok, f.Kind, f.Other} }

func (k key) compare(o key) int {
	return cmp.Or(cmp.Compare(k.tok, o.tok), cmp.Compare(k.kind, o.kind), cmp.Compare(k.other, o.other))
}

// canonical is the list of facts that have these conditions.
func canonical(s shares[key]) []Fact {
	var l []Fact
	for _, k := range sorted(s, key.compare) {
		l = append(l, Fact{k.kind, k.tok, k.other, s[k]})
	}
	return l
}

// chosen are the facts that are to be chosen, in their order.
func chosen(l []Fact, choose func(Fact) bool) []Fact {
	var out []Fact
	for _, f := range l {
		if choose(f) {
			out = append(out, f)
		}
	}
	return out
}

// Project returns the facts that a configuration has.
func Project(l []Fact, c uint32) []Fact {
	out := chosen(l, func(f Fact) bool { return f.Cond.Has(c) })
	for k := range out {
		out[k].Cond = diagram.True()
	}
	return out
}

// Restrict returns the facts that some configurations in d have, with that part of their conditions.
func Restrict(l []Fact, d diagram.D) []Fact {
	out := chosen(l, func(f Fact) bool { return f.Cond.Meets(d) })
	for k := range out {
		out[k].Cond = meet(out[k].Cond, d)
	}
	return out
}

// Merge returns the canonical list of all facts of some lists.
func Merge(l [][]Fact) []Fact {
	all := shares[key]{}
	for _, facts := range l {
		for _, f := range facts {
			all.add(f.key(), f.Cond)
		}
	}
	return canonical(all)
}

// Same reports whether two lists are equal in all fields.
func Same(a, b []Fact) bool { return slices.EqualFunc(a, b, Fact.same) }

func (f Fact) same(o Fact) bool { return f.key() == o.key() && f.Cond.Same(o.Cond) }

// Valid reports whether a list is canonical, and has only the kinds that there are.
func Valid(l []Fact) bool {
	for k, f := range l {
		if f.Kind < api.FactUse || f.Kind > api.FactError || f.Cond.Empty() {
			return false
		}
		if k > 0 && l[k-1].key().compare(f.key()) >= 0 {
			return false
		}
	}
	return true
}

// Of returns the facts of a kind at a token.
func Of(l []Fact, kind uint8, tok int) []Fact {
	return chosen(l, func(f Fact) bool { return f.Kind == kind && f.Tok == tok })
}

// To returns the facts of a kind with a second number.
func To(l []Fact, kind uint8, other int) []Fact {
	return chosen(l, func(f Fact) bool { return f.Kind == kind && f.Other == other })
}

// Problems returns the errors, each with the smallest configuration that has it.
func Problems(l []Fact) []Problem {
	var out []Problem
	for _, f := range l {
		if least, is := f.Cond.Smallest(); is && f.Kind == api.FactError {
			out = append(out, Problem{api.Code(f.Other & 0xff), f.Tok, f.Cond, least})
		}
	}
	return out
}
