package evolve_test

import (
	"slices"
	"testing"

	"motley/api"
	"motley/diagram"
	"motley/evolve"
	"motley/model"
)

func change(t testing.TB, a, b api.Model) evolve.Change {
	t.Helper()
	c, e := evolve.Compare(a, b)
	if e != api.OK {
		t.Fatal("Compare:", e)
	}
	return c
}

func sameChange(a, b evolve.Change) bool {
	return a.Kind == b.Kind && slices.Equal(a.Names, b.Names) && slices.Equal(a.Gone, b.Gone) && slices.Equal(a.New, b.New) &&
		a.Before == b.Before && a.After == b.After && a.Both == b.Both && a.Lost == b.Lost && a.Gained == b.Gained
}

// wantedChange is the change as the chapter defines it, found by going through all configurations.
func wantedChange(a, b api.Model) evolve.Change {
	var c evolve.Change
	before, after := model.Names(a), model.Names(b)
	c.Names = slices.Clone(before)
	for _, name := range after {
		if !slices.Contains(before, name) {
			c.Names, c.New = append(c.Names, name), append(c.New, name)
		}
	}
	for _, name := range before {
		if !slices.Contains(after, name) {
			c.Gone = append(c.Gone, name)
		}
	}
	var lost, gained []uint32
	for x := range uint32(1) << len(c.Names) {
		inA, inB := isIn(a, c.Names, x), isIn(b, c.Names, x)
		if inA {
			c.Before++
		}
		if inB {
			c.After++
		}
		switch {
		case inA && inB:
			c.Both++
		case inA:
			lost = append(lost, x)
		case inB:
			gained = append(gained, x)
		}
	}
	c.Kind = evolve.Arbitrary
	switch {
	case len(lost)+len(gained) == 0:
		c.Kind = evolve.Refactoring
	case len(lost) == 0:
		c.Kind = evolve.Generalization
	case len(gained) == 0:
		c.Kind = evolve.Specialization
	}
	if len(lost) > 0 {
		c.Lost = lost[0]
	}
	if len(gained) > 0 {
		c.Gained = gained[0]
	}
	return c
}

// P10.2

func TestCompare(t *testing.T) {
	kinds := map[uint8]int{}
	for _, p := range pairs(t, 300) {
		got, want := change(t, p[0], p[1]), wantedChange(p[0], p[1])
		if !sameChange(got, want) {
			t.Fatalf("Compare: %v, want %v\n%s\n%s", got, want, printed(t, p[0]), printed(t, p[1]))
		}
		kinds[got.Kind]++
	}
	for kind := evolve.Refactoring; kind <= evolve.Arbitrary; kind++ {
		if kinds[kind] < 20 {
			t.Errorf("only %d changes of the kind %d", kinds[kind], kind)
		}
	}
}

func TestCompareExamples(t *testing.T) {
	a, ab := "root a", "root a\noptional a b"
	const four = "root a\noptional a b\noptional a c\noptional a d\nrequire "
	some, names := four+"d ? !b & !c : b & c", []string{"a", "b", "c", "d"}
	for _, x := range []struct {
		a, b string
		want evolve.Change
	}{
		{a, ab, evolve.Change{Kind: evolve.Generalization, Names: []string{"a", "b"}, New: []string{"b"}, Before: 1, After: 2, Both: 1, Gained: 3}},
		{ab, a, evolve.Change{Kind: evolve.Specialization, Names: []string{"a", "b"}, Gone: []string{"b"}, Before: 2, After: 1, Both: 1, Lost: 3}},
		{a, "root a\noptional a b\nrequire !b", evolve.Change{Kind: evolve.Refactoring, Names: []string{"a", "b"}, New: []string{"b"}, Before: 1, After: 1, Both: 1}},
		{a, "root b", evolve.Change{Kind: evolve.Arbitrary, Names: []string{"a", "b"}, Gone: []string{"a"}, New: []string{"b"}, Before: 1, After: 1, Lost: 1, Gained: 2}},
		{a, a + "\nrequire 0", evolve.Change{Kind: evolve.Specialization, Names: []string{"a"}, Before: 1, Lost: 1}},
		{a + "\nrequire 0", "root b\nrequire !b", evolve.Change{Kind: evolve.Refactoring, Names: []string{"a", "b"}, Gone: []string{"a"}, New: []string{"b"}}},
		{"root a\noptional a b\noptional a c", "root a\noptional a c\noptional c b", evolve.Change{Kind: evolve.Specialization, Names: []string{"a", "b", "c"}, Before: 4, After: 3, Both: 3, Lost: 3}},
		{some, four + "0", evolve.Change{Kind: evolve.Specialization, Names: names, Before: 2, Lost: 7}}, // 9 has fewer features
		{four + "0", some, evolve.Change{Kind: evolve.Generalization, Names: names, After: 2, Gained: 7}},
	} {
		if got := change(t, parsed(t, x.a), parsed(t, x.b)); !sameChange(got, x.want) {
			t.Errorf("Compare of %q and %q: %v", x.a, x.b, got)
		}
	}
}

func TestCompareAllFeatures(t *testing.T) {
	a, b := wide(24, "x"), wide(24, "x")
	slices.Reverse(b.Features[1:])
	b.Features[23].Kind = api.Mandatory
	want := evolve.Change{Kind: evolve.Specialization, Names: model.Names(a), Before: 1 << 23, After: 1 << 22, Both: 1 << 22, Lost: 1}
	if got := change(t, a, b); !sameChange(got, want) {
		t.Errorf("Compare with 24 features: %v", got)
	}
}

func TestDifferences(t *testing.T) {
	for _, p := range pairs(t, 150) {
		names := wantedChange(p[0], p[1]).Names
		lost, gained, e := evolve.Differences(p[0], p[1])
		inA := set(len(names), func(c uint32) bool { return isIn(p[0], names, c) })
		inB := set(len(names), func(c uint32) bool { return isIn(p[1], names, c) })
		if e != api.OK || !lost.Same(inA.And(inB.Not())) || !gained.Same(inB.And(inA.Not())) {
			t.Fatalf("Differences: %v\n%s\n%s", e, printed(t, p[0]), printed(t, p[1]))
		}
	}
}

// P10.10

func TestChangeToItself(t *testing.T) {
	for _, p := range pairs(t, 40) {
		if c := change(t, p[1], p[1]); c.Kind != evolve.Refactoring || c.Lost|c.Gained != 0 || c.Before != c.Both {
			t.Fatalf("the change to itself: %v\n%s", c, printed(t, p[1]))
		}
	}
}

func TestChangeBack(t *testing.T) {
	exchanged := map[uint8]uint8{
		evolve.Refactoring:    evolve.Refactoring,
		evolve.Generalization: evolve.Specialization,
		evolve.Specialization: evolve.Generalization,
		evolve.Arbitrary:      evolve.Arbitrary,
	}
	for _, p := range pairs(t, 100) {
		a, b := change(t, p[0], p[1]), change(t, p[1], p[0])
		lost, gained, _ := evolve.Differences(p[0], p[1])
		lostBack, gainedBack, _ := evolve.Differences(p[1], p[0])
		counts := [4]uint64{count(t, lost, a), count(t, gained, a), count(t, lostBack, b), count(t, gainedBack, b)}
		if b.Kind != exchanged[a.Kind] || a.Before != b.After || a.After != b.Before || a.Both != b.Both ||
			counts[0] != counts[3] || counts[1] != counts[2] || !slices.Equal(a.Gone, b.New) || !slices.Equal(a.New, b.Gone) {
			t.Fatalf("there %v, back %v\n%s\n%s", a, b, printed(t, p[0]), printed(t, p[1]))
		}
		if slices.Equal(a.Names, b.Names) && (a.Lost != b.Gained || a.Gained != b.Lost) {
			t.Fatalf("there %v, back %v: not exchanged", a, b)
		}
	}
}

func TestRefactorings(t *testing.T) {
	d, chains := newDice(), 0
	for _, p := range pairs(t, 100) {
		a, b, c := p[0], d.changed(p[0]), p[1]
		if !slices.Equal(sorted(a), sorted(b)) || !slices.Equal(sorted(b), sorted(c)) {
			continue
		}
		if change(t, a, b).Kind == evolve.Refactoring && change(t, b, c).Kind == evolve.Refactoring {
			if chains++; change(t, a, c).Kind != evolve.Refactoring {
				t.Fatalf("two refactorings are none\n%s\n%s\n%s", printed(t, a), printed(t, b), printed(t, c))
			}
		}
	}
	if chains < 20 {
		t.Errorf("only %d chains of refactorings", chains)
	}
}

func sorted(m api.Model) []string { return slices.Sorted(slices.Values(model.Names(m))) }

// P10.11

func TestCountsOfChanges(t *testing.T) {
	for _, p := range pairs(t, 100) {
		c := change(t, p[0], p[1])
		lost, gained, _ := evolve.Differences(p[0], p[1])
		if c.Before-c.Both != count(t, lost, c) || c.After-c.Both != count(t, gained, c) {
			t.Fatalf("counts %v\n%s\n%s", c, printed(t, p[0]), printed(t, p[1]))
		}
	}
}

func count(t *testing.T, d diagram.D, c evolve.Change) uint64 {
	t.Helper()
	n, e := d.Count(len(c.Names))
	if e != api.OK {
		t.Fatal("a difference depends on other features:", e)
	}
	return n
}

// R4: what is returned belongs to the caller.
func TestChangeIsNew(t *testing.T) {
	a, b := parsed(t, "root a\noptional a b"), parsed(t, "root a\noptional a c\noptional a d")
	c := change(t, a, b)
	for _, l := range [][]string{c.New, c.Gone, c.Names} {
		for k := range l {
			l[k] = "x"
		}
		_ = append(l, "x")
	}
	names, _ := evolve.Union(a, b)
	if !slices.Equal(names, []string{"a", "b", "c", "d"}) || a.Features[0].Name != "a" || b.Features[2].Name != "d" {
		t.Errorf("changed from outside: %v, %v, %v", names, a.Features, b.Features)
	}
	c = change(t, a, b)
	c.New[0], c.Gone[0] = "x", "y"
	if !slices.Equal(c.Names, []string{"a", "b", "c", "d"}) {
		t.Errorf("lists share memory: %v", c.Names)
	}
}
