package run_test

import (
	"slices"
	"testing"

	"motley/api"
	"motley/diagram"
	"motley/run"
)

// P9.4

const tested = "fn main() {\nvar x : int = read;\n#ifdef A\nx = x * 2;\n#endif\nprint x;\n#ifdef B\nprint 6 / x;\n#endif\n#ifdef C\nprint y;\n#endif\n}"

func TestFails(t *testing.T) {
	x := built(t, tested).Tree
	tests := []run.Test{
		{"one", []int64{1}, []int64{1}},
		{"two", []int64{1}, []int64{2}},
		{"both", []int64{3}, []int64{3, 2}},
		{"nothing", nil, nil},
		{"zero", nil, []int64{0}},
		{"twice", []int64{1, 5}, []int64{1}},
	}
	// The configurations without C in which each test passes.
	passes := [][]uint32{{0}, {1}, {2}, {}, {0, 1}, {0}}
	d, e := run.Fails(x, all, tests, enough)
	if e != api.OK || len(d) != len(tests) {
		t.Fatal("Fails:", e)
	}
	sample := []uint32{3, 0, 4, 1, 2, 1, 7, 1<<24 | 2}
	s, e := run.Sampled(x, sample, tests, enough)
	if e != api.OK || len(s) != len(tests) {
		t.Fatal("Sampled:", e)
	}
	for k := range tests {
		for c := range all.All(features) {
			if want := !slices.Contains(passes[k], c); d[k].Has(c) != want {
				t.Errorf("%s: %b: %v", tests[k].Name, c, !want)
			}
		}
		var want []bool
		for _, c := range sample {
			want = append(want, !slices.Contains(passes[k], c&^(1<<24)))
		}
		if !slices.Equal(s[k], want) {
			t.Errorf("%s: %v, want %v", tests[k].Name, s[k], want)
		}
	}
	d, e = run.Fails(x, inA, tests[:1], enough)
	if e != api.OK || len(d) != 1 || !d[0].Same(inA) {
		t.Error("Fails within A:", e)
	}
	d, e = run.Fails(x, all, tests[:1], 1)
	if e != api.OK || len(d) != 1 || !d[0].Full() {
		t.Error("Fails with little fuel:", e)
	}
	d, e = run.Fails(x, none, tests, enough)
	if e != api.OK || len(d) != len(tests) || !d[0].Empty() {
		t.Error("Fails within nothing:", e)
	}
}

func TestNoTests(t *testing.T) {
	x := built(t, tested).Tree
	if d, e := run.Fails(x, all, nil, enough); e != api.OK || len(d) != 0 {
		t.Error("Fails:", d, e)
	}
	if s, e := run.Sampled(x, []uint32{1}, nil, enough); e != api.OK || len(s) != 0 {
		t.Error("Sampled:", s, e)
	}
	if s, e := run.Sampled(x, nil, make([]run.Test, 2), enough); e != api.OK || len(s) != 2 || len(s[0])+len(s[1]) != 0 {
		t.Error("Sampled without configurations:", s, e)
	}
}

// P9.9

func TestSampleAndFamily(t *testing.T) {
	failed, passed := 0, 0
	eachSource(t, 64, func(text string, b run.Built, m *maker) {
		within := pick(m.dice, all, someSet(m.dice, features))
		const fuel = 200
		in := m.inputs()
		want := referred(b.Tree, uint32(m.roll(1<<features)), in, fuel).Out
		tests := []run.Test{{"some", in, want}, {"none", nil, nil}, {"other", m.inputs(), want}}
		d, e := run.Fails(b.Tree, within, tests, fuel)
		if e != api.OK {
			t.Fatal("Fails:", e)
		}
		sample := slices.Collect(all.All(features))
		s, e := run.Sampled(b.Tree, sample, tests, fuel)
		if e != api.OK {
			t.Fatal("Sampled:", e)
		}
		for k, x := range tests {
			for _, c := range sample {
				o := referred(b.Tree, c, x.In, fuel)
				fails := o.Status != api.Done || !slices.Equal(o.Out, x.Want)
				if s[k][c] != fails || d[k].Has(c) != (fails && within.Has(c)) {
					t.Fatalf("%s\n%v: %b: fails: %v", text, x, c, fails)
				}
			}
			causes, e := run.Causes(d[k], within)
			if e != api.OK {
				t.Fatal("Causes:", e)
			}
			found := false
			for _, q := range causes {
				c, _ := diagram.Cube(q.On, q.Off).And(within).Least()
				found = found || s[k][c&7]
			}
			if found == d[k].Empty() {
				t.Fatalf("%s\n%v: a sample with each cause: %v", text, x, found)
			}
			if found {
				failed++
			} else {
				passed++
			}
		}
	})
	if failed < 40 || passed < 4 {
		t.Error("too few tests that fail, or pass:", failed, passed)
	}
}
