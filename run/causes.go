package run

import (
	"math/bits"

	"motley/api"
	"motley/diagram"
)

// Causes returns the least partial configurations with which all configurations in within are in bad.
func Causes(bad, within diagram.D) ([]api.Cube, api.Errno) {
	all, e := bad.Or(within.Not()).Primes()
	if e != api.OK {
		return nil, e
	}
	var l []api.Cube
	for _, q := range all {
		if diagram.Cube(q.On, q.Off).Meets(within) {
			l = append(l, q)
		}
	}
	return l, api.OK
}

// Strength returns how many features causes must have so that each configuration in bad and within belongs to one.
func Strength(bad, within diagram.D) (int, api.Errno) {
	causes, e := Causes(bad, within)
	if e != api.OK {
		return 0, e
	}
	rest := bad.And(within)
	if rest.Empty() {
		return 0, api.ErrNone
	}
	strength := 0
	for _, q := range causes { // those with few features are first
		if rest.Empty() {
			break
		}
		strength = bits.OnesCount32(q.On | q.Off)
		rest = without(rest, diagram.Cube(q.On, q.Off))
	}
	return strength, api.OK
}

// Shrink returns what remains of a configuration in bad and within when features without which it still is are left
// out, the greatest first.
func Shrink(c uint32, bad, within diagram.D) (uint32, api.Errno) {
	both := bad.And(within)
	if !both.Has(c) {
		return 0, api.ErrNone
	}
	c &= 1<<api.MaxFeatures - 1
	for {
		less, is := smaller(c, both)
		if !is {
			return c, api.OK
		}
		c = less
	}
}

// smaller is a configuration without the greatest feature without which it is in a set.
func smaller(c uint32, set diagram.D) (uint32, bool) {
	for i := range api.MaxFeatures {
		less := c &^ (1 << (api.MaxFeatures - 1 - i))
		if less != c && set.Has(less) {
			return less, true
		}
	}
	return 0, false
}
