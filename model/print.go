package model

import (
	"strconv"
	"strings"

	"motley/api"
)

// Print returns the text of a model.
func Print(m api.Model) (string, api.Errno) {
	if e := Check(m); e != api.OK {
		return "", e
	}
	var text strings.Builder
	line := func(words ...string) { text.WriteString(strings.Join(words, " ") + "\n") }
	for _, f := range m.Features {
		if f.Kind == api.Root {
			line(kindWord(f.Kind), f.Name)
		} else {
			line(kindWord(f.Kind), m.Features[f.Parent].Name, f.Name)
		}
	}
	for _, g := range m.Groups {
		line("group", m.Features[g.Parent].Name, strconv.Itoa(g.Low), strconv.Itoa(g.High), memberText(m, g))
	}
	for _, a := range m.Attributes {
		line("attribute", a.Name)
		for i, x := range a.Values {
			if x != 0 {
				line("value", a.Name, m.Features[i].Name, strconv.FormatInt(x, 10))
			}
		}
	}
	for _, e := range m.Requires {
		line(requireText(e))
	}
	for _, l := range m.Limits {
		line(limitText(m, l))
	}
	return text.String(), api.OK
}
