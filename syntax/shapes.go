package syntax

import "motley/api"

// How many kids a slot may have.
const (
	noKid uint8 = iota
	oneKid
	oneOrNone
	anyNumber
)

// What the text of a node is.
const (
	noText uint8 = iota
	nameText
	typeText
	binaryText
	unaryText
	numberText
	boolText
)

// What may be in a slot: the kinds, as bits.
const (
	declarationKinds uint32 = 1<<api.Var | 1<<api.Fn
	paramKind        uint32 = 1 << api.Param
	typeKind         uint32 = 1 << api.TypeName
	blockKind        uint32 = 1 << api.Block
	elseKinds        uint32 = 1<<api.Block | 1<<api.If
	statementKinds   uint32 = 1<<api.Var | 1<<api.Assign | 1<<api.Call | 1<<api.If | 1<<api.While |
		1<<api.Return | 1<<api.Print | 1<<api.Assert | 1<<api.Block
	expressionKinds uint32 = 1<<api.Call | 1<<api.Binary | 1<<api.Unary | 1<<api.Number | 1<<api.Bool |
		1<<api.Read | 1<<api.Name
)

const mostSlots = 3

// slot is what a kind of nodes may have in one of its slots.
type slot struct {
	many  uint8
	kinds uint32
}

// shape is what a kind of nodes may have.
type shape struct {
	text  uint8
	slots [mostSlots]slot
}

// shapes are by the kinds.
var shapes = [...]shape{
	api.Program:  {noText, [mostSlots]slot{{anyNumber, declarationKinds}}},
	api.Var:      {nameText, [mostSlots]slot{{oneKid, typeKind}, {oneOrNone, expressionKinds}}},
	api.Fn:       {nameText, [mostSlots]slot{{anyNumber, paramKind}, {oneOrNone, typeKind}, {oneKid, blockKind}}},
	api.Param:    {nameText, [mostSlots]slot{{oneKid, typeKind}}},
	api.TypeName: {typeText, [mostSlots]slot{}},
	api.Block:    {noText, [mostSlots]slot{{anyNumber, statementKinds}}},
	api.Assign:   {nameText, [mostSlots]slot{{oneKid, expressionKinds}}},
	api.If:       {noText, [mostSlots]slot{{oneKid, expressionKinds}, {oneKid, blockKind}, {oneOrNone, elseKinds}}},
	api.While:    {noText, [mostSlots]slot{{oneKid, expressionKinds}, {oneKid, blockKind}}},
	api.Return:   {noText, [mostSlots]slot{{oneOrNone, expressionKinds}}},
	api.Print:    {noText, [mostSlots]slot{{oneKid, expressionKinds}}},
	api.Assert:   {noText, [mostSlots]slot{{oneKid, expressionKinds}}},
	api.Binary:   {binaryText, [mostSlots]slot{{oneKid, expressionKinds}, {oneKid, expressionKinds}}},
	api.Unary:    {unaryText, [mostSlots]slot{{oneKid, expressionKinds}}},
	api.Number:   {numberText, [mostSlots]slot{}},
	api.Bool:     {boolText, [mostSlots]slot{}},
	api.Read:     {noText, [mostSlots]slot{}},
	api.Name:     {nameText, [mostSlots]slot{}},
	api.Call:     {nameText, [mostSlots]slot{{anyNumber, expressionKinds}}},
}

// textFits reports whether a text is one that a kind may have.
func textFits(kind uint8, text string) bool {
	switch shapes[kind].text {
	case nameText:
		return isName(text)
	case typeText:
		return isType(text)
	case binaryText:
		return binaryLevel(text) != noLevel
	case unaryText:
		return isUnary(text)
	case numberText:
		return kindOf(text) == api.TokNumber
	case boolText:
		return isBool(text)
	}
	return text == ""
}
