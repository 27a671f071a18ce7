package sample_test

import (
	"slices"
	"strings"
	"testing"

	"motley/api"
	"motley/sample"
)

const header = "Phone,Screen,Gps,Basic,Colour\n"

// P5.8

func TestTable(t *testing.T) {
	m := parsed(t, phone)
	for _, x := range []struct {
		l    []uint32
		want string
	}{
		{nil, header},
		{[]uint32{11}, header + "1,1,0,1,0\n"},
		{[]uint32{23, 11, 23 + 32}, header + "1,1,1,0,1\n1,1,0,1,0\n1,1,1,0,1\n"},
	} {
		if s, e := sample.Table(m, x.l); s != x.want || e != api.OK {
			t.Errorf("Table(%v): %q, %v", x.l, s, e)
		}
	}
	if s, e := sample.Table(parsed(t, "root a"), []uint32{1}); s != "a\n1\n" || e != api.OK {
		t.Errorf("Table with one feature: %q, %v", s, e)
	}
	if s, e := sample.Table(parsed(t, "root a\nrequire 0"), nil); s != "a\n" || e != api.OK {
		t.Errorf("Table of a void model: %q, %v", s, e)
	}
}

func TestRead(t *testing.T) {
	for text, want := range map[string][]uint32{
		header:                           nil,
		strings.TrimSuffix(header, "\n"): nil,
		header + "1,1,0,1,0\n":           {11},
		header + "1,1,0,1,0":             {11},
		header + "1,1,1,0,1\n1,1,0,1,0\n1,1,1,0,1": {23, 11, 23},
	} {
		if l, line, e := sample.Read(parsed(t, phone), text); !slices.Equal(l, want) || line != 0 || e != api.OK {
			t.Errorf("Read(%q): %v, line %d, %v", text, l, line, e)
		}
	}
	if l, line, e := sample.Read(parsed(t, "root a"), "a\n1"); !slices.Equal(l, []uint32{1}) || line != 0 || e != api.OK {
		t.Errorf("Read with one feature: %v, line %d, %v", l, line, e)
	}
	if l, line, e := sample.Read(parsed(t, "root a\nrequire 0"), "a"); len(l) != 0 || line != 0 || e != api.OK {
		t.Errorf("Read for a void model: %v, line %d, %v", l, line, e)
	}
}

func wantReadError(t *testing.T, m api.Model, text string, line int, want api.Errno) {
	t.Helper()
	if l, at, e := sample.Read(m, text); len(l) != 0 || at != line || e != want {
		shown := text[max(0, len(text)-60):]
		t.Errorf("Read(.. %q): %d products, line %d, %v, want line %d, %v", shown, len(l), at, e, line, want)
	}
}

func TestReadErrors(t *testing.T) {
	m := parsed(t, phone)
	for _, first := range []string{
		"", "\n", "\n" + header, " " + header, "Phone", "Phone,Screen,Gps,Basic\n", "Phone,Screen,Gps,Basic,Colour,\n",
		"Phone,Screen,Gps,Basic,Colour \n", "Phone,Screen,Gps,Basic,Colour\r\n", "Phone, Screen,Gps,Basic,Colour\n",
		"Screen,Phone,Gps,Basic,Colour\n", "phone,Screen,Gps,Basic,Colour\n", "1,1,0,1,0\n", "\x00\xff",
	} {
		wantReadError(t, m, first, 1, api.ErrForm)
		wantReadError(t, parsed(t, "root a\nrequire 0"), first+"1,0", 1, api.ErrForm)
	}
	for _, row := range []string{
		"\n", " ", "1", "1,1,1", "1,1,0,1,", "1,1,0,1,0,", "1,1,0,1,0,0", "1,1,0,1,0 ", " 1,1,0,1,0", "1,1,0,1,2", "1,1,0,1,x",
		"1 1 0 1 0", "1,1,0,1;0", "11010", "110101010", ",,,,,,,,,", "1,1,0,1,0\r", "1,1,,1,0", "1,1,0,1,\u0661", "1,1,01,0", "01,1,0,1,0",
		header, "0,0,0,0,1 ", "\u00b9,\u00b9,0,1", "\xff,1,0,1,0", "1,1,0,1,\x00", "-1,1,0,1,0", "1,1,0,1,0#",
	} {
		wantReadError(t, m, header+row, 2, api.ErrForm)
		wantReadError(t, m, header+"1,1,0,1,0\n1,1,1,0,1\n"+row+"\n1,1,0,1,0\n", 4, api.ErrForm)
	}
	for _, row := range []string{"0,0,0,0,0", "1,1,1,1,0", "1,1,1,1,1", "0,1,0,1,0"} {
		wantReadError(t, m, header+row, 2, api.ErrArg)
		wantReadError(t, m, header+"1,1,0,1,0\n"+row+"\nnothing", 3, api.ErrArg)
	}
	wantReadError(t, m, header+"1,1,0,1,0\n\n", 3, api.ErrForm)
	wantReadError(t, parsed(t, "root a\nrequire 0"), "a\n1", 2, api.ErrArg)
	wantReadError(t, parsed(t, "root a"), "a\n0", 2, api.ErrArg)
	wantReadError(t, parsed(t, "root a"), "a\n1,", 2, api.ErrForm)
}

func TestReadMany(t *testing.T) {
	m := parsed(t, phone)
	most := header + strings.Repeat("1,1,0,1,0\n", api.MaxSample)
	if l, line, e := sample.Read(m, most); len(l) != api.MaxSample || line != 0 || e != api.OK {
		t.Errorf("Read of as many products as there may be: %d, line %d, %v", len(l), line, e)
	}
	behind := api.MaxSample + 2
	wantReadError(t, m, most+"1,1,0,1,0", behind, api.ErrLimit)
	wantReadError(t, m, most+"1,1,0,1,0\nnothing", behind, api.ErrLimit)
	wantReadError(t, m, most+"1,1,1,1,0\n", behind, api.ErrArg)
	wantReadError(t, m, most+"1,1,1,1\n", behind, api.ErrForm)
	wantReadError(t, m, most+"\n", behind, api.ErrForm)
}
