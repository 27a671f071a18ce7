package formula

import "motley/api"

// Answer is what Solve returns: the least model, or a refutation.
type Answer struct {
	OK    bool
	Model uint32
	Proof [][]int
}

// Propagate returns the consequences of clauses and literals.
func Propagate(n int, l [][]int, fixed []int) ([]int, api.Errno) {
	if err := checkClauses(n, l); err != api.OK {
		return nil, err
	}
	if !areLiterals(fixed, n) {
		return nil, api.ErrArg
	}
	d := deduceFrom(l)
	if !d.assume(fixed...) {
		return nil, api.ErrConflict
	}
	var got []int
	for i := 1; i <= n; i++ {
		if d.holds[place(i)] {
			got = append(got, i)
		}
		if d.holds[place(-i)] {
			got = append(got, -i)
		}
	}
	return got, api.OK
}

// Verify returns the index of the first step that does not follow, -1 if the proof is a refutation, and otherwise the
// number of steps.
func Verify(n int, l, proof [][]int) (int, api.Errno) {
	if err := checkClauses(n, l); err != api.OK {
		return 0, err
	}
	if !areClauses(proof, n) {
		return 0, api.ErrArg
	}
	d := deduceFrom(l)
	for k, step := range proof {
		if !d.implies(step) {
			return k, api.OK
		}
		if len(step) == 0 {
			return -1, api.OK
		}
		d.add(step)
	}
	return len(proof), api.OK
}

// implies reports whether a step follows.
func (d *deduction) implies(step []int) bool {
	var negated []int
	for _, literal := range step {
		negated = append(negated, -literal)
	}
	free := d.assume(negated...)
	d.retreat(d.known)
	return !free
}

// Solve returns the least model, or a refutation.
func Solve(n int, l [][]int) (Answer, api.Errno) {
	if err := checkClauses(n, l); err != api.OK {
		return Answer{}, err
	}
	s := solver{deduction: deduceFrom(l)}
	if !s.search(n) {
		return Answer{Proof: s.proof}, api.OK
	}
	a := Answer{OK: true}
	for i := range n {
		if s.holds[place(i+1)] {
			a.Model |= 1 << i
		}
	}
	return a, api.OK
}

// solver assumes literals until all features are decided, or there is a conflict.
type solver struct {
	*deduction
	proof [][]int
}

// search goes to the least model, and reports whether there is one.
//
// It decides the last open feature, always against it: so each feature that is selected follows from features behind
// it that are not, and no lesser configuration can be a model.
func (s *solver) search(n int) bool {
	free := !s.broken
search:
	for {
		if !free {
			cause, length := s.blame()
			s.proof = append(s.proof, cause)
			if len(cause) == 0 {
				return false
			}
			s.retreat(length)
			s.watch(cause)
			free = s.follows(cause)
			continue
		}
		for i := n; i > 0; i-- {
			if !s.holds[place(i)] && !s.holds[place(-i)] {
				free = s.assume(-i)
				continue search
			}
		}
		return true
	}
}

// blame returns the negations of the assumed literals from which the conflict follows, the last one first; and to how
// many literals one is to go back, so that the first of these is open, and all others are still false.
func (s *solver) blame() (cause []int, length int) {
	var blamed [places]bool
	for _, literal := range s.conflict {
		blamed[place(-literal)] = true
	}
	for k := len(s.trail) - 1; k >= s.known; k-- {
		literal := s.trail[k]
		reason := s.reasons[place(literal)]
		if blamed[place(literal)] {
			for _, other := range reason {
				blamed[place(-other)] = true
			}
		}
		if reason != nil {
			continue
		}
		if blamed[place(literal)] {
			cause = append(cause, -literal)
		}
		if len(cause) < 2 {
			length = k
		}
	}
	return cause, length
}
