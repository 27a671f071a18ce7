package evolve

import (
	"strconv"

	"motley/api"
	"motley/diagram"
	"motley/run"
	"motley/source"
	"motley/syntax"
)

// buildBoth builds two versions of sources.
func buildBoth(old, new []api.File, names []string, within diagram.D) (before, after run.Built, e api.Errno) {
	before, e = run.Build(old, names, within)
	if e == api.OK {
		after, e = run.Build(new, names, within)
	}
	return before, after, e
}

// Sources returns in which configurations in within two versions of sources differ.
func Sources(old, new []api.File, names []string, within diagram.D, in []int64, fuel int) (Report, api.Errno) {
	before, after, e := buildBoth(old, new, names, within)
	if e != api.OK {
		return Report{}, e
	}
	first, e := run.Family(before.Tree, within, in, fuel)
	if e != api.OK {
		return Report{}, e
	}
	second, _ := run.Family(after.Tree, within, in, fuel)    // the fuel is the same
	alike, _ := syntax.Like(before.Tree, after.Tree, within) // family trees are valid
	return Report{
		Tokens: source.Differ(before.List, after.List, within),
		Trees:  without(within, alike),
		Good:   before.Good.Xor(after.Good),
		Runs:   without(within, alikeRuns(first, second)),
	}, api.OK
}

// alikeRuns are the configurations in which two runs have the same status and outputs.
func alikeRuns(a, b []run.Part) diagram.D {
	where := map[string]diagram.D{}
	for _, p := range b {
		where[shown(p.Outcome)] = where[shown(p.Outcome)].Or(p.Cond)
	}
	alike := diagram.False()
	for _, p := range a {
		alike = alike.Or(p.Cond.And(where[shown(p.Outcome)]))
	}
	return alike
}

// shown is the status of an outcome and its outputs, as a text.
func shown(o run.Outcome) string {
	text := strconv.AppendInt(nil, int64(o.Status), 10)
	for _, x := range o.Out {
		text = strconv.AppendInt(append(text, ' '), x, 10)
	}
	return string(text)
}

// Regress returns, for each test, the configurations in within in which only the old version passes, and only the new
// one.
func Regress(old, new []api.File, names []string, within diagram.D, tests []run.Test, fuel int) ([]Verdict, api.Errno) {
	before, after, e := buildBoth(old, new, names, within)
	if e != api.OK {
		return nil, e
	}
	failed, e := run.Fails(before.Tree, within, tests, fuel)
	if e != api.OK {
		return nil, e
	}
	fails, _ := run.Fails(after.Tree, within, tests, fuel) // the fuel is the same
	var l []Verdict
	for k := range tests {
		l = append(l, Verdict{Broken: without(fails[k], failed[k]), Fixed: without(failed[k], fails[k])})
	}
	return l, api.OK
}
