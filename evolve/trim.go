package evolve

import (
	"slices"
	"strings"

	"motley/api"
	"motley/diagram"
	"motley/source"
)

// Trim returns the files without the bytes of the lines that are active nowhere in within, but for directives.
func Trim(files []api.File, names []string, within diagram.D) ([]api.File, api.Errno) {
	active, e := source.Active(files, names, within)
	if e != api.OK {
		return nil, e
	}
	trimmed := slices.Clone(files)
	for k, f := range files {
		trimmed[k].Text = trimmedText(f.Text, active[k])
	}
	return trimmed, api.OK
}

// trimmedText is the text of a file, of each line of which it is known where it is active.
func trimmedText(text string, active []diagram.D) string {
	lines := strings.Split(text, "\n")
	for k, d := range active {
		if d.Empty() && !isDirective(lines[k]) {
			lines[k] = ""
		}
	}
	return strings.Join(lines, "\n")
}

// isDirective reports whether the first byte of a line that is no blank is the sign of directives.
func isDirective(line string) bool { return strings.HasPrefix(strings.TrimLeft(line, " \t"), "#") }
