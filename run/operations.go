package run

import "motley/api"

// operation gives a number for two. It panics with a stop if there is none.
type operation func(x, y int64) int64

// stop is a status with which a run ends: what cannot go on panics with it, and what executes it for some
// configurations recovers it, and sets those of them aside for which it happened.
type stop uint8

// binary is the operation of an operator with two operands.
func binary(operator string) operation {
	switch operator {
	case "+":
		return func(x, y int64) int64 { return x + y }
	case "-":
		return func(x, y int64) int64 { return x - y }
	case "*":
		return func(x, y int64) int64 { return x * y }
	case "/":
		return func(x, y int64) int64 { return x / divisor(y) }
	case "%":
		return func(x, y int64) int64 { return x % divisor(y) }
	case "==":
		return func(x, y int64) int64 { return truth(x == y) }
	case "!=":
		return func(x, y int64) int64 { return truth(x != y) }
	case "<":
		return func(x, y int64) int64 { return truth(x < y) }
	case "<=":
		return func(x, y int64) int64 { return truth(x <= y) }
	case ">":
		return func(x, y int64) int64 { return truth(x > y) }
	case ">=":
		return func(x, y int64) int64 { return truth(x >= y) }
	}
	return nil // && and || are no operations: their second operand is not always evaluated
}

// unary is the operation of an operator with one operand, the first one.
func unary(operator string) operation {
	if operator == "-" {
		return func(x, _ int64) int64 { return -x }
	}
	return func(x, _ int64) int64 { return truth(x == 0) }
}

func divisor(y int64) int64 {
	if y == 0 {
		panic(stop(api.Zero))
	}
	return y
}

// counted is the number of steps after one more.
func counted(steps, fuel int64) int64 {
	if steps == fuel {
		panic(stop(api.Fuel))
	}
	return steps + 1
}

// nested is the number of active calls after one more.
func nested(calls, most int64) int64 {
	if calls == most {
		panic(stop(api.Deep))
	}
	return calls + 1
}

// asserted is a number that must not be 0.
func asserted(x, _ int64) int64 {
	if x == 0 {
		panic(stop(api.Failed))
	}
	return x
}

func isTrue(x, _ int64) int64 { return truth(x != 0) }
