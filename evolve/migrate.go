package evolve

import (
	"math/bits"
	"slices"

	"motley/api"
	"motley/model"
)

// Edits returns the lines of the text of a that the text of b has not, and the other way round.
func Edits(a, b api.Model) (removed, added []string, e api.Errno) {
	if e := checkBoth(a, b); e != api.OK {
		return nil, nil, e
	}
	before, _ := model.Print(a)
	after, _ := model.Print(b)
	return linesOnlyIn(before, after), linesOnlyIn(after, before), api.OK
}

// linesOnlyIn are the lines of a text that are left when each line of another one has taken the first one that is equal
// to it.
func linesOnlyIn(text, other string) []string {
	theirs := map[string]int{}
	for _, line := range linesOf(other) {
		theirs[line]++
	}
	var left []string
	for _, line := range linesOf(text) {
		if theirs[line] > 0 {
			theirs[line]--
			continue
		}
		left = append(left, line)
	}
	return left
}

// Map returns the configuration of b with the features that a configuration of a has, by their names; and the names of
// those that b has not.
func Map(a, b api.Model, c uint32) (uint32, []string, api.Errno) {
	if e := checkBoth(a, b); e != api.OK {
		return 0, nil, e
	}
	mapped, features := uint32(0), model.Names(b)
	var missing []string
	for i, name := range model.Names(a) {
		if !has(c, i) {
			continue
		}
		if k := slices.Index(features, name); k >= 0 {
			mapped |= 1 << k
		} else {
			missing = append(missing, name)
		}
	}
	return mapped, missing, api.OK
}

// Migrate returns the product of b that is nearest to the mapped configuration, and in how many features it differs.
func Migrate(a, b api.Model, c uint32) (uint32, int, api.Errno) {
	mapped, _, e := Map(a, b, c)
	if e != api.OK {
		return 0, 0, e
	}
	products, _ := model.Diagram(b)
	near, is := products.Nearest(mapped)
	if !is {
		return 0, 0, api.ErrConflict
	}
	return near, bits.OnesCount32(near ^ mapped), api.OK
}
