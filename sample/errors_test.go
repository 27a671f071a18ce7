package sample_test

import (
	"math"
	"slices"
	"strings"
	"testing"

	"motley/api"
	"motley/model"
	"motley/sample"
)

// call is one of the functions, made ready: it tells whether all results but the error are zero.
type call func(m api.Model, k int, l []uint32) (zero bool, e api.Errno)

// withSets are the functions that get a number of features.
func withSets() map[string]call {
	calls := map[string]call{
		"Combinations": func(m api.Model, k int, _ []uint32) (bool, api.Errno) {
			l, e := sample.Combinations(m, k)
			return len(l) == 0, e
		},
		"Least": func(m api.Model, k int, _ []uint32) (bool, api.Errno) {
			l, e := sample.Least(m, k)
			return len(l) == 0, e
		},
		"Bound": func(m api.Model, k int, _ []uint32) (bool, api.Errno) {
			l, e := sample.Bound(m, k)
			return len(l) == 0, e
		},
		"Proves": func(m api.Model, k int, _ []uint32) (bool, api.Errno) {
			is, e := sample.Proves(m, k, nil)
			return !is, e
		},
		"Renew": func(m api.Model, k int, l []uint32) (bool, api.Errno) {
			l, e := sample.Renew(m, k, l)
			return len(l) == 0, e
		},
	}
	for name, c := range withSetsAndProducts() {
		calls[name] = c
	}
	return calls
}

// withSetsAndProducts are those of them that get a list of products, too.
func withSetsAndProducts() map[string]call {
	return map[string]call{
		"Missing": func(m api.Model, k int, l []uint32) (bool, api.Errno) {
			x, e := sample.Missing(m, k, l)
			return len(x) == 0, e
		},
		"Coverage": func(m api.Model, k int, l []uint32) (bool, api.Errno) {
			covered, all, e := sample.Coverage(m, k, l)
			return covered == 0 && all == 0, e
		},
		"Extend": func(m api.Model, k int, l []uint32) (bool, api.Errno) {
			x, e := sample.Extend(m, k, l)
			return len(x) == 0, e
		},
		"Reduce": func(m api.Model, k int, l []uint32) (bool, api.Errno) {
			x, e := sample.Reduce(m, k, l)
			return len(x) == 0, e
		},
		"Order": func(m api.Model, k int, l []uint32) (bool, api.Errno) {
			x, e := sample.Order(m, k, l)
			return len(x) == 0, e
		},
	}
}

// others are the functions that get no number of features; k is how many products they are to choose.
func others() map[string]call {
	return map[string]call{
		"Spread": func(m api.Model, k int, _ []uint32) (bool, api.Errno) {
			l, e := sample.Spread(m, k)
			return len(l) == 0, e
		},
		"Diverse": func(m api.Model, k int, _ []uint32) (bool, api.Errno) {
			l, e := sample.Diverse(m, k)
			return len(l) == 0, e
		},
		"Table": func(m api.Model, _ int, l []uint32) (bool, api.Errno) {
			text, e := sample.Table(m, l)
			return text == "", e
		},
		"Read": func(m api.Model, _ int, _ []uint32) (bool, api.Errno) {
			l, line, e := sample.Read(m, "nothing")
			return len(l) == 0 && line == 0, e
		},
	}
}

func wantError(t *testing.T, name string, c call, m api.Model, k int, l []uint32, want api.Errno) {
	t.Helper()
	if zero, e := c(m, k, l); e != want || !zero {
		t.Errorf("%s with t or k %d and %d products: %v, zero values: %t, want %v", name, k, len(l), e, zero, want)
	}
}

// tooMany is the text of a model with one product more than functions go through.
func tooMany() string {
	return free(18, "require F17 => !F1"+strings.Join([]string{"", "F2", "F3", "F4", "F5", "F6", "F7", "F8", "F9", "F10",
		"F11", "F12", "F13", "F14", "F15", "F16"}, " & !"))
}

// The error of the model comes first.
func TestModelErrors(t *testing.T) {
	bad := parsed(t, tooMany())
	bad.Features[1].Name = "F0"
	for _, x := range []struct {
		m    api.Model
		want api.Errno
	}{
		{api.Model{}, api.ErrArg},
		{api.Model{Features: make([]api.Feature, 25)}, api.ErrLimit},
		{bad, api.ErrTwice},
	} {
		for name, c := range withSets() {
			wantError(t, name, c, x.m, 4, []uint32{0}, x.want)
		}
		for name, c := range others() {
			wantError(t, name, c, x.m, 4097, []uint32{0}, x.want)
		}
	}
}

// Then the number of features in a combination.
func TestRangeErrors(t *testing.T) {
	many, long := parsed(t, tooMany()), make([]uint32, api.MaxSample+1)
	for _, k := range []int{0, -1, 4, 24, 1<<32 + 1, math.MinInt, math.MaxInt} {
		for name, c := range withSets() {
			wantError(t, name, c, many, k, long, api.ErrRange)
			wantError(t, name, c, parsed(t, "root a\nrequire 0"), k, nil, api.ErrRange)
		}
	}
}

// Then the list of products; Renew minds only how long it is.
func TestListErrors(t *testing.T) {
	many, m, void := parsed(t, tooMany()), parsed(t, phone), parsed(t, "root a\nrequire 0")
	long := slices.Repeat([]uint32{11}, api.MaxSample+1)
	calls := withSetsAndProducts()
	calls["Table"] = others()["Table"]
	for name, c := range calls {
		wantError(t, name, c, many, 1, []uint32{0}, api.ErrArg)
		wantError(t, name, c, many, 1, []uint32{1, 3, 2, 5}, api.ErrArg)
		wantError(t, name, c, m, 1, []uint32{15}, api.ErrArg)
		wantError(t, name, c, m, 1, []uint32{11, 19, 15 + 32}, api.ErrArg)
		wantError(t, name, c, void, 1, []uint32{1}, api.ErrArg)
		wantError(t, name, c, m, 1, long, api.ErrArg)
		if zero, e := c(m, 1, long[1:]); zero || e != api.OK {
			t.Errorf("%s of as many products as a list may have: %v", name, e)
		}
	}
	renew := withSets()["Renew"]
	wantError(t, "Renew", renew, m, 1, long, api.ErrArg)
	wantError(t, "Renew", renew, m, 1, make([]uint32, api.MaxSample+1), api.ErrArg)
	wantError(t, "Renew", renew, many, 1, make([]uint32, api.MaxSample+1), api.ErrArg)
}

// Then the number of products, and how many are to be chosen.
func TestLimitErrors(t *testing.T) {
	many, most := parsed(t, tooMany()), parsed(t, free(17))
	wantError(t, "Extend", withSets()["Extend"], many, 1, []uint32{1}, api.ErrLimit)
	wantError(t, "Renew", withSets()["Renew"], many, 1, []uint32{0}, api.ErrLimit)
	for _, k := range []int{-1, 0, 1, api.MaxSample + 1} {
		wantError(t, "Diverse", others()["Diverse"], many, k, nil, api.ErrLimit)
	}
	for _, k := range []int{api.MaxSample + 1, math.MaxInt} {
		for _, name := range []string{"Spread", "Diverse"} {
			wantError(t, name, others()[name], most, k, nil, api.ErrLimit)
			wantError(t, name, others()[name], parsed(t, "root a\nrequire 0"), k, nil, api.ErrLimit)
		}
	}
	for _, name := range []string{"Extend", "Renew"} {
		if zero, e := withSets()[name](most, 1, nil); zero || e != api.OK {
			t.Errorf("%s with as many products as there may be: %v", name, e)
		}
	}
	if zero, e := others()["Spread"](many, 1, nil); zero || e != api.OK {
		t.Errorf("Spread with many products: %v", e)
	}
	wantError(t, "Least", withSets()["Least"], parsed(t, free(6, "require F5 => !F1 & !F2 & !F3 & !F4")), 1, nil, api.ErrLimit)
	if zero, e := withSets()["Least"](parsed(t, free(5)), 1, nil); zero || e != api.OK {
		t.Errorf("Least of 16 products: %v", e)
	}
}

func TestArgumentsAreNotChanged(t *testing.T) {
	m := parsed(t, phone)
	l := []uint32{19 + 32, 23 + 64, 11 + 1<<31}
	cubes := []api.Cube{{On: 5 + 1<<24}, {On: 9, Off: 1 << 31}, {Off: 12}}
	keptList, keptCubes := slices.Clone(l), slices.Clone(cubes)
	for _, c := range withSets() {
		c(m, 2, l[:2])
		c(m, 2, l)
	}
	for _, c := range others() {
		c(m, 2, l)
	}
	sample.Proves(m, 2, cubes)
	if !model.Same(m, parsed(t, phone)) || !slices.Equal(l, keptList) || !slices.Equal(cubes, keptCubes) {
		t.Errorf("changed: %v, %v, %v", m, l, cubes)
	}
}

// A result is new memory: what is done to it changes neither the argument nor the next result.
func TestResultsAreNew(t *testing.T) {
	m := parsed(t, phone)
	l := []uint32{11, 23}
	for _, f := range []func(api.Model, int, []uint32) ([]uint32, api.Errno){sample.Extend, sample.Renew, sample.Reduce} {
		got, _ := f(m, 1, l)
		clear(got)
		if again, _ := f(m, 1, l); !slices.Equal(again, []uint32{11, 23}) || !slices.Equal(l, again) {
			t.Errorf("after a change of the result: %v, then %v", l, again)
		}
	}
}
