package run

import (
	"cmp"
	"slices"
	"strconv"

	"motley/api"
	"motley/diagram"
)

// Project returns the outcome of the first part that has a configuration.
func Project(l []Part, c uint32) (Outcome, bool) {
	k := slices.IndexFunc(l, func(p Part) bool { return p.Cond.Has(c) })
	if k < 0 {
		return Outcome{}, false
	}
	return l[k].Outcome.copied(), true
}

// copied is the outcome as new memory.
func (o Outcome) copied() Outcome {
	o.Out = slices.Clone(o.Out)
	return o
}

// Restrict returns the parts that have configurations in d, with those of them.
func Restrict(l []Part, d diagram.D) []Part {
	var out []Part
	for _, p := range l {
		if here := p.Cond.And(d); !here.Empty() {
			out = append(out, Part{here, p.Outcome.copied()})
		}
	}
	return out
}

// Merge returns the parts of some lists, those with equal outcomes as one.
func Merge(l [][]Part) []Part { return canonical(slices.Concat(l...)) }

// canonical makes a canonical list of the parts of a list, which is not needed any more.
func canonical(l []Part) []Part {
	l = slices.DeleteFunc(l, func(p Part) bool { return p.Cond.Empty() })
	l = joined(l, Part.key, func(a, b Part) Part { return Part{a.Cond.Or(b.Cond), a.Outcome} })
	for k, p := range l {
		l[k].Outcome = p.Outcome.copied()
	}
	slices.SortStableFunc(l, func(a, b Part) int { return cmp.Compare(a.least(), b.least()) })
	return l
}

// key tells outcomes apart.
func (p Part) key() string {
	text := strconv.AppendInt(nil, int64(p.Status), 10)
	for _, x := range append([]int64{int64(p.Tok), int64(p.Steps)}, p.Out...) {
		text = strconv.AppendInt(append(text, ' '), x, 10)
	}
	return string(text)
}

// joined makes one thing of all that have the same key, in the order in which the keys came.
func joined[T any, K comparable](l []T, key func(T) K, join func(a, b T) T) []T {
	var out []T
	at := map[K]int{}
	for _, x := range l {
		k := key(x)
		if first, is := at[k]; is {
			out[first] = join(out[first], x)
			continue
		}
		at[k] = len(out)
		out = append(out, x)
	}
	return out
}

// least is the least configuration that has the outcome.
func (p Part) least() uint32 {
	c, _ := p.Cond.Least()
	return c
}

// Same reports whether two lists are equal in all fields.
func Same(a, b []Part) bool { return slices.EqualFunc(a, b, Part.same) }

func (p Part) same(o Part) bool { return p.Cond.Same(o.Cond) && p.key() == o.key() }

// Valid reports whether a list is canonical, and has only the statuses that there are.
func Valid(l []Part) bool {
	before, known := diagram.False(), map[string]bool{}
	for k, p := range l {
		switch {
		case p.Status > api.Deep || p.Cond.Empty() || p.Cond.Meets(before) || known[p.key()]:
			return false
		case k > 0 && l[k-1].least() >= p.least():
			return false
		}
		before, known[p.key()] = before.Or(p.Cond), true
	}
	return true
}

// Where returns the configurations of all parts with a status.
func Where(l []Part, status uint8) diagram.D {
	d := diagram.False()
	for _, p := range l {
		if p.Status == status {
			d = d.Or(p.Cond)
		}
	}
	return d
}
