package formula

import (
	"strings"

	"motley/api"
)

// Print returns the text of a formula.
func Print(e api.Expr) (string, api.Errno) {
	if !Valid(e) {
		return "", api.ErrArg
	}
	var text strings.Builder
	var write func(e api.Expr, level int)
	write = func(e api.Expr, level int) {
		if levelOf(e.Op) < level {
			text.WriteString("(")
			write(e, choiceLevel)
			text.WriteString(")")
			return
		}
		text.WriteString(sign(e.Op, 0))
		text.WriteString(e.Name)
		for k, kid := range e.Kids {
			if k > 0 {
				text.WriteString(" " + sign(e.Op, k) + " ")
			}
			write(kid, kidLevel(e.Op, k))
		}
	}
	write(e, choiceLevel)
	return text.String(), api.OK
}
