package sample

import (
	"strings"

	"motley/api"
	"motley/model"
)

// The digits of a table.
const (
	onDigit  = '1'
	offDigit = '0'
)

// Table returns the table of a list of products.
func Table(m api.Model, l []uint32) (string, api.Errno) {
	f, e := familyOf(m)
	if e != api.OK {
		return "", e
	}
	list, e := f.list(l)
	if e != api.OK {
		return "", e
	}
	var text strings.Builder
	text.WriteString(header(m) + "\n")
	for _, c := range list {
		text.WriteString(f.row(c) + "\n")
	}
	return text.String(), api.OK
}

// header is the first line of a table.
func header(m api.Model) string { return strings.Join(model.Names(m), ",") }

// row is the line of a product.
func (f family) row(c uint32) string {
	digits := make([]string, f.features)
	for i := range digits {
		digits[i] = string(offDigit)
		if c>>i&1 == 1 {
			digits[i] = string(onDigit)
		}
	}
	return strings.Join(digits, ",")
}

// Read returns the list of a table; or an error, and the number of the line at which it is.
func Read(m api.Model, text string) (l []uint32, line int, e api.Errno) {
	f, e := familyOf(m)
	if e != api.OK {
		return nil, 0, e
	}
	first, rest, _ := strings.Cut(text, "\n")
	if first != header(m) {
		return nil, 1, api.ErrForm
	}
	line = 1
	for row := range strings.Lines(rest) {
		line++
		c, e := f.read(strings.TrimSuffix(row, "\n"), len(l))
		if e != api.OK {
			return nil, line, e
		}
		l = append(l, c)
	}
	return l, 0, api.OK
}

// read returns the product of a line, before which there are so many.
func (f family) read(row string, before int) (uint32, api.Errno) {
	c, is := f.parse(row)
	switch {
	case !is:
		return 0, api.ErrForm
	case !f.products.Has(c):
		return 0, api.ErrArg
	case before == api.MaxSample:
		return 0, api.ErrLimit
	}
	return c, api.OK
}

// parse returns the configuration of a line, and whether the line is the one of this configuration.
func (f family) parse(row string) (uint32, bool) {
	c := uint32(0)
	for i := range f.features {
		if at := 2 * i; at < len(row) && row[at] == onDigit {
			c |= 1 << i
		}
	}
	return c, row == f.row(c)
}
