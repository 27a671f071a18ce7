package formula

import (
	"slices"

	"motley/api"
)

// deduction finds the consequences of clauses and of literals that are assumed. A clause is looked at only if one of
// the two literals that watch it becomes false: as long as neither is, nothing follows from it.
type deduction struct {
	holds    [places]bool
	reasons  [places][]int   // the clause from which a literal follows; nil if it is assumed
	watched  [places][][]int // by literal: the clauses that it watches; the first two of a clause watch it
	trail    []int           // the literals that hold, in the order in which they were found
	next     int             // the first one of them that was not looked at
	known    int             // so many follow from the clauses alone
	conflict []int           // a clause of which no literal can be true
	broken   bool            // there is a conflict of the clauses alone
}

// places is how many numbers there are from the least literal to the greatest one.
const places = 2*api.MaxFeatures + 1

func place(literal int) int { return literal + api.MaxFeatures }

// deduceFrom begins with clauses.
func deduceFrom(l [][]int) *deduction {
	var d deduction
	for _, clause := range l {
		d.add(clause)
	}
	return &d
}

// add adds a clause, while nothing is assumed.
func (d *deduction) add(clause []int) {
	if d.broken {
		return
	}
	var open []int
	for _, literal := range clause {
		if !d.holds[place(-literal)] && !slices.Contains(open, literal) {
			open = append(open, literal)
		}
	}
	if len(open) == 0 {
		d.broken = true
		return
	}
	d.watch(open)
	if len(open) == 1 {
		d.broken = !d.follows(open)
		d.known = len(d.trail)
	}
}

// watch has a clause watched by its first two literals. (A clause with a single literal needs no watch, for it is
// never taken back.)
func (d *deduction) watch(clause []int) {
	if len(clause) < 2 {
		return
	}
	for _, literal := range clause[:2] {
		d.watched[place(literal)] = append(d.watched[place(literal)], clause)
	}
}

// follows notes the first literal of a clause whose others are false, and what follows from that.
func (d *deduction) follows(clause []int) bool { return d.note(clause[0], clause) && d.propagate() }

// assume adds literals to what holds, with all that follows, and reports whether there is no conflict.
func (d *deduction) assume(literals ...int) bool {
	for _, literal := range literals {
		if !d.note(literal, nil) || !d.propagate() {
			return false
		}
	}
	return !d.broken
}

// retreat takes back all literals that hold but the first ones.
func (d *deduction) retreat(length int) {
	for _, literal := range d.trail[length:] {
		d.holds[place(literal)] = false
	}
	d.trail = d.trail[:length]
	d.next = length
}

// note notes that a literal holds, and reports whether it can.
func (d *deduction) note(literal int, reason []int) bool {
	if d.holds[place(literal)] {
		return true
	}
	if d.holds[place(-literal)] {
		d.conflict = reason
		return false
	}
	d.holds[place(literal)] = true
	d.reasons[place(literal)] = reason
	d.trail = append(d.trail, literal)
	return true
}

// propagate notes all that follows, and reports whether there is no conflict.
func (d *deduction) propagate() bool {
	for d.next < len(d.trail) {
		literal := d.trail[d.next]
		d.next++
		if !d.look(-literal) {
			return false
		}
	}
	return true
}

// look goes through the clauses that are watched by a literal that has become false.
func (d *deduction) look(literal int) bool {
	list := d.watched[place(literal)]
	kept := list[:0]
	for k, clause := range list {
		if d.handOn(clause, literal) {
			continue
		}
		kept = append(kept, clause)
		if !d.note(clause[0], clause) {
			d.watched[place(literal)] = append(kept, list[k+1:]...)
			return false
		}
	}
	d.watched[place(literal)] = kept
	return true
}

// handOn has a clause watched by another literal than this false one, which need not be if the one that also watches
// it holds. It reports whether it found one; if not, the one that also watches it is its first one.
func (d *deduction) handOn(clause []int, literal int) bool {
	if clause[0] == literal {
		clause[0], clause[1] = clause[1], clause[0]
	}
	if d.holds[place(clause[0])] {
		return false
	}
	for k := 2; k < len(clause); k++ {
		if other := clause[k]; !d.holds[place(-other)] {
			clause[1], clause[k] = other, literal
			d.watched[place(other)] = append(d.watched[place(other)], clause)
			return true
		}
	}
	return false
}
