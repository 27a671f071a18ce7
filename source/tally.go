package source

import (
	"motley/api"
	"motley/diagram"
)

// tally counts the steps of a line, in each configuration. As long as no configuration can have too many, it only
// writes down which ones have a step; it settles the counts when that is no longer certain.
type tally struct {
	left   diagram.D   // where the line has not taken too many
	lost   bool        // whether there are other configurations, too
	counts shares[int] // those that are left, by the steps that are settled
	fresh  []steps     // the steps that are not
	places map[diagram.D]int
	most   int // no configuration in which the expansion is now has taken more
	// The last settling: its number, and the most steps that any configuration that is left had then.
	settled, exact int
}

// steps are so many steps that are taken together.
type steps struct {
	cond  diagram.D
	count int
}

// tooLong is what an expansion panics with if it takes too many steps in all configurations.
type tooLong struct{}

func newTally(d diagram.D) tally {
	return tally{left: d, counts: share(0, d), places: map[diagram.D]int{}}
}

// step counts a step in some configurations, and returns those of them in which the line is not too long already.
func (t *tally) step(d diagram.D) diagram.D {
	if t.lost {
		d = d.And(t.left)
	}
	if d.Empty() {
		return d
	}
	at, is := t.places[d]
	if !is {
		at = len(t.fresh)
		t.places[d] = at
		t.fresh = append(t.fresh, steps{cond: d})
	}
	t.fresh[at].count++
	if t.most++; t.most > api.MaxWork {
		t.settle()
	}
	return d
}

// settle counts exactly, and leaves out the configurations with too many steps.
func (t *tally) settle() {
	long := diagram.False()
	for _, s := range t.fresh {
		var counts shares[int]
		for n, d := range t.counts.all() {
			with := d.And(s.cond)
			counts.add(n, without(d, s.cond))
			if n += s.count; n <= api.MaxWork {
				counts.add(n, with)
			} else {
				long = long.Or(with)
			}
		}
		t.counts = counts
	}
	t.fresh = nil
	clear(t.places)
	t.exact = 0
	for n := range t.counts.all() {
		t.exact = max(t.exact, n)
	}
	t.settled++
	t.most = t.exact
	t.left = without(t.left, long)
	t.lost = t.lost || !long.Empty()
	if t.left.Empty() {
		panic(tooLong{})
	}
}

// mark is what was known of the steps at some time.
type mark struct{ most, settled int }

func (t *tally) mark() mark { return mark{t.most, t.settled} }

// resume goes on with configurations that have taken no step since a mark. What others have taken need not be
// counted for them: so alternatives do not add up.
func (t *tally) resume(m mark) {
	t.most = m.most
	if t.settled > m.settled {
		t.most = min(t.most, t.exact)
	}
}
