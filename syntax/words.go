package syntax

import (
	"motley/api"
	"motley/source"
)

// The words of the grammar, and its signs that are no operators.
const (
	varWord    = "var"
	fnWord     = "fn"
	intWord    = "int"
	boolWord   = "bool"
	ifWord     = "if"
	elseWord   = "else"
	whileWord  = "while"
	returnWord = "return"
	printWord  = "print"
	assertWord = "assert"
	trueWord   = "true"
	falseWord  = "false"
	readWord   = "read"

	openSign   = "("
	closeSign  = ")"
	beginSign  = "{"
	endSign    = "}"
	commaSign  = ","
	colonSign  = ":"
	stopSign   = ";"
	assignSign = "="
	notSign    = "!"
	minusSign  = "-"
)

var words = [...]string{
	varWord, fnWord, intWord, boolWord, ifWord, elseWord, whileWord, returnWord, printWord, assertWord, trueWord,
	falseWord, readWord,
}

// The lines of the grammar that have operators: an operator of a later one binds more tightly.
const (
	noLevel = iota
	orLevel
	andLevel
	compareLevel
	sumLevel
	productLevel
	unaryLevel
)

// binaryLevel is the level of an operator with two operands; noLevel if the sign is none.
func binaryLevel(sign string) int {
	switch sign {
	case "||":
		return orLevel
	case "&&":
		return andLevel
	case "==", "!=", "<", "<=", ">", ">=":
		return compareLevel
	case "+", minusSign:
		return sumLevel
	case "*", "/", "%":
		return productLevel
	}
	return noLevel
}

// kindOf is the kind of the token that a text is; 0 if it is not just one token.
func kindOf(text string) uint8 {
	l, e := source.Lex(text)
	if e != api.OK || len(l) != 1 || l[0].Text != text {
		return 0
	}
	return l[0].Kind
}

func isType(text string) bool { return text == intWord || text == boolWord }

func isBool(text string) bool { return text == trueWord || text == falseWord }

func isUnary(text string) bool { return text == notSign || text == minusSign }

func isName(text string) bool { return kindOf(text) == api.TokName && !isWord(text) }

func isWord(text string) bool {
	for _, word := range words {
		if word == text {
			return true
		}
	}
	return false
}
