package bench

import "motley/api"

// Sets that are always there, and so no names of other ones.
const (
	allName   = "all"
	validName = "valid"
)

// documentName is a word that is the name of a document or of a version.
func documentName(word string) string {
	if !hasLength(word) || !consistsOf(word, func(r rune) bool { return isOfName(r) || r == '.' || r == '-' }) {
		fail(api.ErrName)
	}
	return word
}

// setName is a word that is the name of a set that can be made.
func setName(word string) string {
	isName := hasLength(word) && consistsOf(word, isOfName) && !isDigit(rune(word[0]))
	if !isName || word == allName || word == validName {
		fail(api.ErrName)
	}
	return word
}

func hasLength(name string) bool { return 1 <= len(name) && len(name) <= api.MaxName }

// consistsOf reports whether all runes of a word are allowed.
func consistsOf(word string, allowed func(r rune) bool) bool {
	for _, r := range word {
		if !allowed(r) {
			return false
		}
	}
	return true
}

// isOfName reports whether a name may have this rune.
func isOfName(r rune) bool {
	return 'a' <= r && r <= 'z' || 'A' <= r && r <= 'Z' || isDigit(r) || r == '_'
}

func isDigit(r rune) bool { return '0' <= r && r <= '9' }
