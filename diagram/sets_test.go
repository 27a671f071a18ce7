package diagram_test

import (
	"math"
	"testing"

	"motley/api"
	"motley/diagram"
)

// P1.1

func TestFalseTrue(t *testing.T) {
	wantTable(t, "False", diagram.False(), 0)
	wantTable(t, "True", diagram.True(), ^table(0))
	wantTable(t, "zero", diagram.D{}, 0)
}

func TestVar(t *testing.T) {
	for j, i := range places {
		wantTable(t, "Var", variable(t, i), variableTable(j))
	}
	for i := range 24 {
		d := variable(t, i)
		if !d.Has(1<<i) || d.Has(every&^(1<<i)) || d.Support() != 1<<i {
			t.Errorf("Var(%d)", i)
		}
	}
	for _, i := range []int{-1, 24, 32, math.MinInt, math.MaxInt} {
		if d, e := diagram.Var(i); e != api.ErrRange || !d.Empty() {
			t.Errorf("Var(%d): %v", i, e)
		}
	}
}

func variableTable(j int) table {
	t := table(0)
	for k := range 64 {
		t |= table(k>>j&1) << k
	}
	return t
}

func TestCube(t *testing.T) {
	for _, x := range []struct{ on, off int }{{0, 0}, {1, 0}, {0, 32}, {5, 34}, {63, 0}, {0, 63}, {21, 42}, {32, 1}} {
		want := table(0)
		for k := range 64 {
			if k&x.on == x.on && k&x.off == 0 {
				want |= 1 << k
			}
		}
		wantTable(t, "Cube", diagram.Cube(config(x.on), config(x.off)), want)
		wantTable(t, "Cube, high bits", diagram.Cube(config(x.on)|0xff000000, config(x.off)|0xff000000), want)
	}
	for _, x := range []api.Cube{{On: 1, Off: 1}, {On: 1 << 23, Off: 1 << 23}, {On: 3, Off: 6}, {On: every, Off: every}} {
		if !diagram.Cube(x.On, x.Off).Empty() {
			t.Errorf("Cube(%x, %x) is not empty", x.On, x.Off)
		}
	}
	if !diagram.Cube(1, 2).Has(1) || diagram.Cube(1, 2).Has(3) {
		t.Error("Cube(1, 2)")
	}
}

// P1.2

func TestOperations(t *testing.T) {
	l := tables(24)
	for k, x := range l {
		a := x.set()
		wantTable(t, "Not", a.Not(), ^x)
		for n, y := range l {
			b := y.set()
			wantTable(t, "And", a.And(b), x&y)
			wantTable(t, "Or", a.Or(b), x|y)
			wantTable(t, "Xor", a.Xor(b), x^y)
			z := l[(k*7+n)%len(l)]
			wantTable(t, "Ite", a.Ite(b, z.set()), x&y|^x&z)
		}
		wantTable(t, "the argument of all these", a, x)
	}
}

func TestAndAllOrAll(t *testing.T) {
	if !diagram.AndAll().Full() || !diagram.OrAll().Empty() {
		t.Error("of none")
	}
	if !diagram.AndAll([]diagram.D{}...).Full() || !diagram.OrAll([]diagram.D{}...).Empty() {
		t.Error("of an empty list")
	}
	l := tables(12)
	for k := range l {
		x, y, z := l[k], l[(k+3)%len(l)], l[(k+5)%len(l)]
		given := []diagram.D{x.set(), y.set(), z.set()}
		wantTable(t, "AndAll of one", diagram.AndAll(given[0]), x)
		wantTable(t, "OrAll of one", diagram.OrAll(given[0]), x)
		wantTable(t, "AndAll", diagram.AndAll(given...), x&y&z)
		wantTable(t, "OrAll", diagram.OrAll(given...), x|y|z)
		wantTable(t, "the argument", given[0], x)
	}
}

// P1.3

func TestWith(t *testing.T) {
	for _, x := range tables(40) {
		a := x.set()
		for j, i := range places {
			wantTable(t, "With off", a.With(i, false), x.fix(j, false))
			wantTable(t, "With on", a.With(i, true), x.fix(j, true))
		}
		for _, i := range []int{-1, 3, 21, 24, 25, 31, 32, 63, 64, math.MinInt, math.MaxInt} {
			wantTable(t, "With another one, off", a.With(i, false), x)
			wantTable(t, "With another one, on", a.With(i, true), x)
		}
	}
}

func TestExistsForall(t *testing.T) {
	for _, x := range tables(20) {
		a := x.set()
		for k := range 64 {
			some, all := x, x
			for j := range places {
				if k>>j&1 == 1 {
					some = some.fix(j, false) | some.fix(j, true)
					all = all.fix(j, false) & all.fix(j, true)
				}
			}
			for _, others := range []uint32{0, 0xff000000, 0xff000010} {
				wantTable(t, "Exists", a.Exists(config(k)|others), some)
				wantTable(t, "Forall", a.Forall(config(k)|others), all)
			}
		}
	}
}

// P1.4

func TestHas(t *testing.T) {
	for _, x := range tables(20) {
		a := x.set()
		for k := range 64 {
			want := x>>k&1 == 1
			if a.Has(config(k)) != want || a.Has(config(k)|0xff000000) != want || a.Has(config(k)|1<<24) != want {
				t.Errorf("%016x has %d", uint64(x), k)
			}
		}
	}
}

func TestEmptyFull(t *testing.T) {
	for _, x := range tables(20) {
		if a := x.set(); a.Empty() != (x == 0) || a.Full() != (x == ^table(0)) {
			t.Errorf("%016x: %t, %t", uint64(x), a.Empty(), a.Full())
		}
	}
}

func TestSameWithinMeets(t *testing.T) {
	l := tables(20)
	l = append(l, l[8]&l[9], l[8]|l[9], ^l[8], l[8]&^1, l[9]|1<<63)
	for _, x := range l {
		a := x.set()
		for _, y := range l {
			b := y.set()
			if a.Same(b) != (x == y) {
				t.Errorf("%016x same as %016x", uint64(x), uint64(y))
			}
			if a.Within(b) != (x&^y == 0) {
				t.Errorf("%016x within %016x", uint64(x), uint64(y))
			}
			if a.Meets(b) != (x&y != 0) {
				t.Errorf("%016x meets %016x", uint64(x), uint64(y))
			}
		}
	}
}

// P1.5

func TestSupport(t *testing.T) {
	for _, x := range tables(40) {
		want := uint32(0)
		for j, i := range places {
			if x.depends(j) {
				want |= 1 << i
			}
		}
		if got := x.set().Support(); got != want {
			t.Errorf("support of %016x: %x, want %x", uint64(x), got, want)
		}
	}
}

func TestFixed(t *testing.T) {
	l := tables(40)
	for k := range 64 {
		l = append(l, 1<<k, 1<<k|1<<(k*5%64), 3<<(k&^1))
	}
	for _, x := range l {
		on, off := x.set().Fixed()
		wantOn, wantOff := uint32(0), uint32(0)
		for j, i := range places {
			with := variableTable(j)
			if x != 0 && x&^with == 0 {
				wantOn |= 1 << i
			}
			if x != 0 && x&with == 0 {
				wantOff |= 1 << i
			}
		}
		if on != wantOn || off != wantOff {
			t.Errorf("fixed in %016x: %x, %x, want %x, %x", uint64(x), on, off, wantOn, wantOff)
		}
	}
	if on, off := diagram.Cube(0x123456, every&^0x123456).Fixed(); on != 0x123456 || off != every&^0x123456 {
		t.Errorf("fixed in a single configuration: %x, %x", on, off)
	}
}

// P1.13

func TestLawsOfSets(t *testing.T) {
	l := tables(12)
	for k := range l {
		a, b, c := l[k].set(), l[(k+1)%len(l)].set(), l[(k+4)%len(l)].set()
		laws := []struct {
			name string
			x, y diagram.D
		}{
			{"and over or", a.And(b.Or(c)), a.And(b).Or(a.And(c))},
			{"or over and", a.Or(b.And(c)), a.Or(b).And(a.Or(c))},
			{"xor with itself", a.Xor(a), diagram.False()},
			{"not twice", a.Not().Not(), a},
			{"not of and", a.And(b).Not(), a.Not().Or(b.Not())},
			{"and, order", a.And(b).And(c), c.And(a.And(b))},
			{"with its complement", a.Or(a.Not()), diagram.True()},
			{"without its complement", a.And(a.Not()), diagram.False()},
			{"xor", a.Xor(b), a.Or(b).And(a.And(b).Not())},
			{"ite", a.Ite(b, c), a.And(b).Or(c.And(a.Not()))},
		}
		for _, law := range laws {
			if !law.x.Same(law.y) {
				t.Errorf("%s does not hold", law.name)
			}
			sameNodes(t, law.name, law.x, law.y, true)
		}
	}
}

func TestSameNodes(t *testing.T) {
	l := tables(20)
	for _, x := range l {
		for _, y := range l {
			sameNodes(t, "tables", x.set(), y.set(), x == y)
		}
	}
}

// P1.14

func TestFixing(t *testing.T) {
	for _, x := range tables(12) {
		a := x.set()
		for _, i := range append([]int{4, 21}, places[:]...) {
			if !variable(t, i).Ite(a.With(i, true), a.With(i, false)).Same(a) {
				t.Errorf("%016x is not what arises from fixing %d", uint64(x), i)
			}
		}
		for k := range 64 {
			f := config(k)
			union := a
			for _, i := range places {
				if f>>i&1 == 1 {
					union = union.With(i, false).Or(union.With(i, true))
				}
			}
			if !a.Exists(f).Same(union) || !a.Forall(f).Same(a.Not().Exists(f).Not()) {
				t.Errorf("%016x: Exists or Forall of %x", uint64(x), f)
			}
		}
	}
}
