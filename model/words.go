package model

import "motley/api"

// The words that texts have for the numbers of api. What has none is empty.

// kindWord is the first word of a line that adds a feature of this kind.
func kindWord(kind uint8) string {
	switch kind {
	case api.Root:
		return "root"
	case api.Mandatory:
		return "mandatory"
	case api.Optional:
		return "optional"
	case api.Member:
		return "member"
	}
	return ""
}

func relationSign(rel uint8) string {
	switch rel {
	case api.AtMost:
		return "<="
	case api.AtLeast:
		return ">="
	case api.Equal:
		return "="
	}
	return ""
}

// relationOf is the relation with this sign; 0 if there is none.
func relationOf(sign string) uint8 {
	for _, rel := range [...]uint8{api.AtMost, api.AtLeast, api.Equal} {
		if sign == relationSign(rel) {
			return rel
		}
	}
	return 0
}
