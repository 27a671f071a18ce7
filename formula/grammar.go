package formula

import "motley/api"

// The levels of the grammar, from the outermost to the innermost one. A formula stands without ( ) where its own
// level, or one further out, is asked for.
const (
	choiceLevel = iota
	sameLevel
	impliesLevel
	orLevel
	xorLevel
	andLevel
	notLevel // with the constants and the names
)

// levelOf is the level on which the grammar has an operator.
func levelOf(op uint8) int {
	switch op {
	case api.OpChoice:
		return choiceLevel
	case api.OpSame:
		return sameLevel
	case api.OpImplies:
		return impliesLevel
	case api.OpOr:
		return orLevel
	case api.OpXor:
		return xorLevel
	case api.OpAnd:
		return andLevel
	}
	return notLevel
}

// kidLevel is the level that the grammar asks for at the kid k of an operator.
func kidLevel(op uint8, k int) int {
	own := levelOf(op)
	switch {
	case op == api.OpNot:
		return notLevel
	case op == api.OpImplies && k > 0, op == api.OpChoice && k > 0:
		return own
	}
	return own + 1
}

// sign is what stands before the kid k of an operator; for k 0 that is what the text of a node begins with.
func sign(op uint8, k int) string {
	switch {
	case op == api.OpNot:
		return "!"
	case op == api.OpFalse:
		return "0"
	case op == api.OpTrue:
		return "1"
	case k == 0:
		return ""
	case op == api.OpAnd:
		return "&"
	case op == api.OpXor:
		return "^"
	case op == api.OpOr:
		return "|"
	case op == api.OpImplies:
		return "=>"
	case op == api.OpSame:
		return "<=>"
	case k == 1:
		return "?"
	}
	return ":"
}
