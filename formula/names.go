package formula

import (
	"slices"

	"motley/api"
)

func isLetter(b byte) bool { return 'a' <= b && b <= 'z' || 'A' <= b && b <= 'Z' || b == '_' }

func isDigit(b byte) bool { return '0' <= b && b <= '9' }

// isName reports whether a text is a name.
func isName(s string) bool {
	return s != "" && len(s) <= api.MaxName && wordLength(s) == len(s) && !isDigit(s[0])
}

// wordLength is how many letters, digits and underscores a text begins with.
func wordLength(s string) int {
	n := 0
	for n < len(s) && (isLetter(s[n]) || isDigit(s[n])) {
		n++
	}
	return n
}

// checkNames returns the error of a list of names.
func checkNames(names []string) api.Errno {
	if len(names) > api.MaxFeatures {
		return api.ErrLimit
	}
	for i, s := range names {
		if !isName(s) {
			return api.ErrName
		}
		if slices.Contains(names[:i], s) {
			return api.ErrTwice
		}
	}
	return api.OK
}

// checkNamed returns the error of a formula and the names that it may have.
func checkNamed(e api.Expr, names []string) api.Errno {
	if !Valid(e) {
		return api.ErrArg
	}
	if err := checkNames(names); err != api.OK {
		return err
	}
	for _, s := range Names(e) {
		if !slices.Contains(names, s) {
			return api.ErrName
		}
	}
	return api.OK
}
