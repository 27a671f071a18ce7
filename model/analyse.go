package model

import (
	"slices"

	"motley/api"
	"motley/diagram"
)

// Analyse returns what follows from a model.
func Analyse(m api.Model) (Analysis, api.Errno) {
	if e := Check(m); e != api.OK {
		return Analysis{}, e
	}
	p := partsOf(m)
	if p.products.Empty() {
		return Analysis{Void: true}, api.OK
	}
	count, _ := p.products.Count(len(m.Features))
	return Analysis{
		Count:         count,
		Core:          p.core,
		Dead:          p.dead,
		FalseOptional: p.falseOptional(),
		Redundant:     p.redundant(),
		Atomic:        p.atomic(),
	}, api.OK
}

// Shares returns, for each feature, how many products have it.
func Shares(m api.Model) ([]uint64, api.Errno) {
	d, e := Diagram(m)
	if e != api.OK {
		return nil, e
	}
	var l []uint64
	for i := range m.Features {
		count, _ := d.And(diagram.Cube(1<<i, 0)).Count(len(m.Features))
		l = append(l, count)
	}
	return l, api.OK
}

// Implications returns the pairs of features of which one implies the other, but for those that say nothing new.
func Implications(m api.Model) ([]Pair, api.Errno) {
	if e := Check(m); e != api.OK {
		return nil, e
	}
	p := partsOf(m)
	var l []Pair
	for from, implied := range p.implied {
		for to := range m.Features {
			if from != to && (implied&^p.core)>>to&1 == 1 {
				l = append(l, Pair{from, to})
			}
		}
	}
	return l, api.OK
}

// parts is a valid model with what its analysis is made of.
type parts struct {
	api.Model
	sets       []diagram.D // of the rules
	products   diagram.D
	core, dead uint32
	implied    []uint32 // for each feature: those that all products with it have; none if it is dead
}

func partsOf(m api.Model) parts {
	p := parts{Model: m, sets: setsOf(m)}
	p.products = diagram.AndAll(p.sets...)
	p.core, p.dead = p.products.Fixed()
	for i := range m.Features {
		on, _ := p.products.And(diagram.Cube(1<<i, 0)).Fixed()
		p.implied = append(p.implied, on)
	}
	return p
}

func (p parts) falseOptional() uint32 {
	set := uint32(0)
	for i, f := range p.Features {
		if isOptional(f) && p.implied[f.Parent]>>i&1 == 1 {
			set |= 1 << i
		}
	}
	return set
}

// isOptional reports whether a feature might be missing where its parent is.
func isOptional(f api.Feature) bool { return f.Kind == api.Optional || f.Kind == api.Member }

// redundant returns the requirements and limits without which the set of the model is the same.
func (p parts) redundant() []int {
	first := len(p.sets) - len(p.Requires) - len(p.Limits)
	before := diagram.AndAll(p.sets[:first]...)
	behind := behindEach(before, p.sets[first:])
	var l []int
	for k, d := range p.sets[first:] {
		if before.And(behind[k]).Same(p.products) {
			l = append(l, first+k)
		}
		before = before.And(d)
	}
	return l
}

// atomic returns the atomic sets: features that imply each other.
func (p parts) atomic() []uint32 {
	var l []uint32
	for i := range p.Features {
		set := uint32(0)
		for k := range p.Features {
			both := p.implied[i] >> k & (p.implied[k] >> i) & 1
			set |= both << k
		}
		if set != 0 && !slices.Contains(l, set) {
			l = append(l, set)
		}
	}
	return l
}
