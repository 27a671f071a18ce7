package evolve

import (
	"motley/api"
	"motley/diagram"
	"motley/formula"
	"motley/source"
)

// maxGuard is how many tokens a guard may have: with a sign and a pair of brackets around it, it fits into a line.
const maxGuard = 250

// Guard returns the expression of an #if that is true in the configurations of a set.
func Guard(d diagram.D, names []string) (string, api.Errno) {
	// The formula of the set branches as its guard does, and is too large only where the guard is too long, too.
	e, err := formula.Of(d, names)
	if err != api.OK {
		return "", err
	}
	guard := guardOf(e)
	if tokens, err := source.Lex(guard); err != api.OK || len(tokens) > maxGuard {
		return "", api.ErrLimit
	}
	return guard, api.OK
}

// guardOf is the guard of a formula that formula.Of has made: so the first kid is a name, or a name that is negated.
func guardOf(e api.Expr) string {
	var kids []string
	for _, kid := range e.Kids {
		kids = append(kids, guardOf(kid))
	}
	switch e.Op {
	case api.OpFalse:
		return "0"
	case api.OpTrue:
		return "1"
	case api.OpName:
		return "defined(" + e.Name + ")"
	case api.OpNot:
		return "!" + kids[0]
	case api.OpAnd:
		return kids[0] + " && (" + kids[1] + ")"
	case api.OpOr:
		return kids[0] + " || (" + kids[1] + ")"
	}
	return kids[0] + " && (" + kids[1] + ") || !" + kids[0] + " && (" + kids[2] + ")" // OpChoice
}
