package formula

import (
	"slices"

	"motley/api"
	"motley/diagram"
)

// Eval reports whether a formula is true for a configuration.
func Eval(e api.Expr, names []string, c uint32) (bool, api.Errno) {
	if err := checkNamed(e, names); err != api.OK {
		return false, err
	}
	truth := algebra[bool]{
		yes:     true,
		feature: func(i int) bool { return c>>i&1 == 1 },
		choose: func(a, b, c bool) bool {
			if a {
				return b
			}
			return c
		},
	}
	return truth.value(e, names), api.OK
}

// Diagram returns the set of the configurations for which a formula is true.
func Diagram(e api.Expr, names []string) (diagram.D, api.Errno) {
	if err := checkNamed(e, names); err != api.OK {
		return diagram.D{}, err
	}
	sets := algebra[diagram.D]{
		no:      diagram.False(),
		yes:     diagram.True(),
		feature: func(i int) diagram.D { return diagram.Cube(1<<i, 0) },
		choose:  diagram.D.Ite,
	}
	return sets.value(e, names), api.OK
}

// algebra is what formulas have as values. All operators come from one choice: b where a is true, otherwise c.
type algebra[T any] struct {
	no, yes T
	feature func(i int) T
	choose  func(a, b, c T) T
}

func (x algebra[T]) value(e api.Expr, names []string) T {
	var kids []T
	for _, kid := range e.Kids {
		kids = append(kids, x.value(kid, names))
	}
	switch e.Op {
	case api.OpTrue:
		return x.yes
	case api.OpName:
		return x.feature(slices.Index(names, e.Name))
	case api.OpNot:
		return x.not(kids[0])
	case api.OpAnd:
		return row(kids, x.and)
	case api.OpOr:
		return row(kids, x.or)
	case api.OpXor:
		return row(kids, x.xor)
	case api.OpImplies:
		return x.choose(kids[0], kids[1], x.yes)
	case api.OpSame:
		return x.not(x.xor(kids[0], kids[1]))
	case api.OpChoice:
		return x.choose(kids[0], kids[1], kids[2])
	}
	return x.no
}

func (x algebra[T]) not(a T) T { return x.choose(a, x.no, x.yes) }

func (x algebra[T]) and(a, b T) T { return x.choose(a, b, x.no) }

func (x algebra[T]) or(a, b T) T { return x.choose(a, x.yes, b) }

func (x algebra[T]) xor(a, b T) T { return x.choose(a, x.not(b), b) }

// row joins values from the left to the right.
func row[T any](l []T, join func(a, b T) T) T {
	got := l[0]
	for _, x := range l[1:] {
		got = join(got, x)
	}
	return got
}
