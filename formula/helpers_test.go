package formula_test

import (
	"slices"
	"strings"

	"motley/api"
)

// dice gives numbers that look like chance, the same ones in each run.
type dice uint64

func (d *dice) roll(n int) int {
	*d ^= *d << 13
	*d ^= *d >> 7
	*d ^= *d << 17
	return int(*d >> 1 % dice(n))
}

func name(s string) api.Expr { return api.Expr{Op: api.OpName, Name: s} }

func node(op uint8, kids ...api.Expr) api.Expr { return api.Expr{Op: op, Kids: kids} }

func constant(on bool) api.Expr {
	if on {
		return node(api.OpTrue)
	}
	return node(api.OpFalse)
}

// The names of the tests. Some have letters, digits and underscores at their ends, and one is as long as can be.
func someNames(n int) []string {
	return []string{"a", "B", "_", "c_1", "_0", strings.Repeat("xY_9", 8), "a_", "Z9"}[:n]
}

// tower is a name below so many OpNot.
func tower(nots int) api.Expr {
	e := name("a")
	for range nots {
		e = node(api.OpNot, e)
	}
	return e
}

// wide is an OpAnd of so many names.
func wide(kids int) api.Expr { return node(api.OpAnd, slices.Repeat([]api.Expr{name("a")}, kids)...) }

// arities are the numbers of kids that valid nodes have: for OpFalse, OpTrue, OpName and so on.
var arities = [11][]int{1: {0}, 2: {0}, 3: {0}, 4: {1}, 5: {2, 3, 4}, 6: {2, 3, 4}, 7: {2, 3, 4}, 8: {2}, 9: {2}, 10: {3}}

// tree makes a valid formula with at most so many levels.
func (d *dice) tree(levels int, names []string) api.Expr {
	op := uint8(1 + d.roll(10))
	if levels == 1 || d.roll(6) == 0 {
		op = uint8(1 + d.roll(3))
	}
	if op == api.OpName {
		return name(names[d.roll(len(names))])
	}
	e := node(op)
	for range arities[op][d.roll(len(arities[op]))] {
		e.Kids = append(e.Kids, d.tree(levels-1, names))
	}
	return e
}

// trees are valid formulas of all sizes.
func trees(count int, names []string) []api.Expr {
	d := dice(271828182845)
	var l []api.Expr
	for len(l) < count {
		if e := d.tree(1+len(l)%6, names); countNodes(e) <= api.MaxExpr {
			l = append(l, e)
		}
	}
	return l
}

func countNodes(e api.Expr) int {
	n := 1
	for _, kid := range e.Kids {
		n += countNodes(kid)
	}
	return n
}

// equal compares trees as the document says it, node by node.
func equal(a, b api.Expr) bool {
	return a.Op == b.Op && a.Name == b.Name && slices.EqualFunc(a.Kids, b.Kids, equal)
}

// clone is a copy to compare with later.
func clone(e api.Expr) api.Expr {
	e.Kids = slices.Clone(e.Kids)
	for k := range e.Kids {
		e.Kids[k] = clone(e.Kids[k])
	}
	return e
}

// spoil overwrites all memory of a tree.
func spoil(e *api.Expr) {
	for k := range e.Kids {
		spoil(&e.Kids[k])
	}
	e.Op, e.Name = 77, "spoilt"
}

// truth is the value of a formula, by the table of the chapter.
func truth(e api.Expr, names []string, c uint32) bool {
	kid := func(k int) bool { return truth(e.Kids[k], names, c) }
	true_ := 0
	for k := range e.Kids {
		if kid(k) {
			true_++
		}
	}
	switch e.Op {
	case api.OpTrue:
		return true
	case api.OpName:
		return c>>slices.Index(names, e.Name)&1 == 1
	case api.OpNot:
		return !kid(0)
	case api.OpAnd:
		return true_ == len(e.Kids)
	case api.OpOr:
		return true_ > 0
	case api.OpXor:
		return true_%2 == 1
	case api.OpImplies:
		return !kid(0) || kid(1)
	case api.OpSame:
		return true_ != 1
	case api.OpChoice:
		return kid(0) && kid(1) || !kid(0) && kid(2)
	}
	return false
}

// badNames are lists of names that are not valid, with their errors.
func badNames() map[api.Errno][][]string {
	many := strings.Split("abcdefghijklmnopqrstuvwxy", "")
	return map[api.Errno][][]string{
		api.ErrLimit: {many, slices.Repeat([]string{"a"}, 25), slices.Repeat([]string{""}, 30)},
		api.ErrName: {
			{""}, {"a", "1"}, {"9a"}, {"a b"}, {"a", "b", "ä"}, {"a-b"}, {"a "}, {" a"}, {"a\x00"}, {"!"},
			{strings.Repeat("a", 33)}, {"a", "", "a"}, {"a", "0", "a"},
		},
		api.ErrTwice: {{"a", "a"}, {"a", "b", "B", "b"}, {"a", "a", ""}, append(many[:23:23], "a")},
	}
}
