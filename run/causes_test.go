package run_test

import (
	"cmp"
	"math/bits"
	"slices"
	"testing"

	"motley/api"
	"motley/diagram"
	"motley/run"
)

// P9.5

func cubeSize(q api.Cube) int { return bits.OnesCount32(q.On) + bits.OnesCount32(q.Off) }

// cubes are all partial configurations of n features, in the order of Primes.
func cubes(n int) []api.Cube {
	var l []api.Cube
	for on := range uint32(1) << n {
		for off := range uint32(1) << n {
			if on&off == 0 {
				l = append(l, api.Cube{On: on, Off: off})
			}
		}
	}
	slices.SortFunc(l, func(x, y api.Cube) int {
		return cmp.Or(cmp.Compare(cubeSize(x), cubeSize(y)), cmp.Compare(x.On, y.On), cmp.Compare(x.Off, y.Off))
	})
	return l
}

func belongs(c uint32, q api.Cube) bool { return c&q.On == q.On && c&q.Off == 0 }

// isCause reports whether some configuration in within belongs to a cube, and all such are in bad. (Bad and within
// depend on n features at most.)
func isCause(q api.Cube, bad, within diagram.D, n int) bool {
	some := false
	for c := range within.All(n) {
		if belongs(c, q) {
			some = true
			if !bad.Has(c) {
				return false
			}
		}
	}
	return some
}

// causes are the causes as the chapter says it.
func causes(bad, within diagram.D, n int) []api.Cube {
	var l []api.Cube
	for _, q := range cubes(n) {
		least := isCause(q, bad, within, n)
		for i := range n {
			on, off := q.On&^(1<<i), q.Off&^(1<<i)
			if less := (api.Cube{On: on, Off: off}); less != q && isCause(less, bad, within, n) {
				least = false
			}
		}
		if least {
			l = append(l, q)
		}
	}
	return l
}

func strength(bad, within diagram.D, n int) int {
	most := 0
	l := causes(bad, within, n)
	for c := range bad.And(within).All(n) {
		least := n + 1
		for _, q := range l {
			if belongs(c, q) {
				least = min(least, cubeSize(q))
			}
		}
		most = max(most, least)
	}
	return most
}

// eachBad tries something with sets of n features.
func eachBad(count, n int, try func(bad, within diagram.D)) {
	d := newDice()
	for range count {
		bad := someSet(d, n)
		try(bad, pick(d, diagram.True(), someSet(d, n), someSet(d, n).Or(bad), someSet(d, n).Not(), bad))
	}
	for _, bad := range []diagram.D{all, none, inA} {
		for _, within := range []diagram.D{all, none, inA, notA} {
			try(bad, within)
		}
	}
}

func TestCauses(t *testing.T) {
	const n = 4
	eachBad(300, n, func(bad, within diagram.D) {
		l, e := run.Causes(bad, within)
		want := causes(bad, within, n)
		if e != api.OK || !slices.Equal(l, want) {
			t.Fatalf("%v, %v, want %v", l, e, want)
		}
		s, e := run.Strength(bad, within)
		if !bad.Meets(within) {
			if s != 0 || e != api.ErrNone {
				t.Fatal("Strength of nothing:", s, e)
			}
			return
		}
		if want := strength(bad, within, n); s != want || e != api.OK {
			t.Fatalf("Strength: %d, %v, want %d", s, e, want)
		}
	})
}

func TestCausesOfExamples(t *testing.T) {
	bad := inA.And(inB.Not())
	for _, x := range []struct {
		bad, within diagram.D
		want        []api.Cube
		strength    int
	}{
		{bad, all, []api.Cube{{On: 1, Off: 2}}, 2},
		{bad, inA, []api.Cube{{Off: 2}}, 1},
		{bad, bad, []api.Cube{{}}, 0},
		{all, all, []api.Cube{{}}, 0},
		{all, inB, []api.Cube{{}}, 0},
		{inA.Or(diagram.Cube(1<<23|4, 2)), all, []api.Cube{{On: 1}, {On: 1<<23 | 4, Off: 2}}, 3},
		{inA.Xor(inB), all, []api.Cube{{On: 1, Off: 2}, {On: 2, Off: 1}}, 2},
	} {
		l, e := run.Causes(x.bad, x.within)
		s, f := run.Strength(x.bad, x.within)
		if e != api.OK || f != api.OK || !slices.Equal(l, x.want) || s != x.strength {
			t.Errorf("%v, %v; %d, %v; want %v, %d", l, e, s, f, x.want, x.strength)
		}
	}
}

func TestCausesOfMany(t *testing.T) {
	odd := func(n int) diagram.D {
		d := none
		for i := range n {
			d = d.Xor(diagram.Cube(1<<i, 0))
		}
		return d
	}
	l, e := run.Causes(odd(api.MaxPrimes), all)
	if e != api.OK || len(l) != 1<<(api.MaxPrimes-1) {
		t.Error("Causes:", len(l), e)
	}
	many := odd(api.MaxPrimes + 1)
	for _, within := range []diagram.D{all, odd(3), inA} {
		l, e := run.Causes(many, within)
		s, f := run.Strength(many, within)
		if e != api.ErrLimit || f != api.ErrLimit || len(l) > 0 || s != 0 {
			t.Error("too many features:", l, e, s, f)
		}
	}
	if s, e := run.Strength(none, many); e != api.ErrLimit || s != 0 {
		t.Error("too many features, and nothing bad:", s, e)
	}
	// Only what the union of bad and the others depends on counts.
	l, e = run.Causes(many, many)
	if e != api.OK || !slices.Equal(l, []api.Cube{{}}) {
		t.Error("all is bad:", l, e)
	}
	l, e = run.Causes(all, none)
	if e != api.OK || len(l) != 0 {
		t.Error("within nothing:", l, e)
	}
}

// P9.5, P9.12

func TestShrink(t *testing.T) {
	const n = 5
	d := newDice()
	eachBad(300, n, func(bad, within diagram.D) {
		c := uint32(d.roll(1 << n))
		both := bad.And(within)
		got, e := run.Shrink(c|1<<29, bad, within)
		if !both.Has(c) {
			if got != 0 || e != api.ErrNone {
				t.Fatal("Shrink of another one:", got, e)
			}
			return
		}
		want := c
		for i := n - 1; i >= 0; i-- {
			if less := want &^ (1 << i); less != want && both.Has(less) {
				want, i = less, n
			}
		}
		if e != api.OK || got != want {
			t.Fatalf("Shrink(%b): %b, %v, want %b", c, got, e, want)
		}
		for i := range n {
			if less := got &^ (1 << i); !both.Has(got) || got&^c != 0 || less != got && both.Has(less) {
				t.Fatalf("Shrink(%b): %b is not smallest", c, got)
			}
		}
	})
	if c, e := run.Shrink(7, diagram.Cube(5, 0), all); c != 5 || e != api.OK {
		t.Error("the example:", c, e)
	}
	if c, e := run.Shrink(1<<32-1, diagram.Cube(1<<23, 0), all); c != 1<<23 || e != api.OK {
		t.Error("all features:", c, e)
	}
	// The greatest feature may become needless only when another one is left out.
	set := diagram.Cube(7, 0).Or(diagram.Cube(5, 2)).Or(diagram.Cube(1, 6))
	if c, e := run.Shrink(7, set, diagram.Cube(6, 1).Not()); c != 1 || e != api.OK {
		t.Error("again and again:", c, e)
	}
	if c, e := run.Shrink(1, inA, inB); c != 0 || e != api.ErrNone {
		t.Error("not within:", c, e)
	}
	if c, e := run.Shrink(2, inA, inB); c != 0 || e != api.ErrNone {
		t.Error("not bad:", c, e)
	}
}

// P9.10

func TestCausesCover(t *testing.T) {
	const n = 5
	eachBad(300, n, func(bad, within diagram.D) {
		l, e := run.Causes(bad, within)
		if e != api.OK {
			t.Fatal("Causes:", e)
		}
		union := none
		for k, q := range l {
			union = union.Or(diagram.Cube(q.On, q.Off))
			for i, o := range l {
				if i != k && q.On&o.On == o.On && q.Off&o.Off == o.Off {
					t.Fatalf("%v has %v", o, q)
				}
			}
		}
		if !union.And(within).Same(bad.And(within)) {
			t.Fatalf("%v do not cover what is bad, or more", l)
		}
	})
}

// P9.11

func TestStrengthOfSamples(t *testing.T) {
	const n = 4
	tried := 0
	eachBad(200, n, func(bad, within diagram.D) {
		s, e := run.Strength(bad, within)
		if e != api.OK {
			return
		}
		tried++
		// A sample that has nothing bad as long as that is possible.
		missed := false
		good := within.And(bad.Not())
		for _, q := range cubes(n) {
			set := diagram.Cube(q.On, q.Off)
			if cubeSize(q) <= s && set.Meets(within) && !set.Meets(good) {
				missed = true
			}
		}
		if !missed {
			t.Fatalf("a sample of the strength %d may find nothing", s)
		}
	})
	if tried < 100 {
		t.Error("too few:", tried)
	}
}
