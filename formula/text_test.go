package formula_test

import (
	"slices"
	"strings"
	"testing"

	"motley/api"
	"motley/formula"
)

// P2.14

func TestWrite(t *testing.T) {
	for want, p := range map[string]problem{
		"p cnf 0 0\n":                         {0, nil},
		"p cnf 24 0\n":                        {24, nil},
		"p cnf 0 1\n0\n":                      {0, [][]int{{}}},
		"p cnf 2 2\n1 -2 0\n0\n":              {2, [][]int{{1, -2}, {}}},
		"p cnf 24 3\n-24 24 0\n0\n7 7 -7 0\n": {24, [][]int{{-24, 24}, nil, {7, 7, -7}}},
	} {
		if got, err := formula.Write(p.n, p.l); got != want || err != api.OK {
			t.Errorf("Write(%d, %v): %q, %v", p.n, p.l, got, err)
		}
	}
}

func wantRead(t *testing.T, text string, n int, l [][]int) {
	t.Helper()
	gotN, got, line, err := formula.Read(text)
	if gotN != n || !sameClauses(got, l) || line != 0 || err != api.OK {
		t.Errorf("Read(%.80q): %d, %v, line %d, %v", text, gotN, got, line, err)
	}
}

func TestRead(t *testing.T) {
	for text, p := range map[string]problem{
		"p cnf 0 0\n":            {0, nil},
		"p cnf 0 0":              {0, nil},
		"p cnf 24 1\n-24 0":      {24, [][]int{{-24}}},
		"p cnf 2 2\n1 -2 0\n0\n": {2, [][]int{{1, -2}, {}}},
		"p cnf 2 2\n1 -2 0\n0":   {2, [][]int{{1, -2}, {}}},
		"c\np cnf 2 1\ncomment\n1 1 -2 0\nc 0\nc":         {2, [][]int{{1, 1, -2}}},
		"c p cnf 9\nc\nc\np cnf 1 1\n0\nc\n":              {1, [][]int{{}}},
		"p cnf 24 1\n" + strings.Repeat("9 ", 64) + "0\n": {24, [][]int{slices.Repeat([]int{9}, 64)}},
		"p cnf 3 4096\n" + strings.Repeat("3 0\n", 4096):  {3, slices.Repeat([][]int{{3}}, 4096)},
	} {
		wantRead(t, text, p.n, p.l)
	}
}

// P2.20

func TestWrittenAndRead(t *testing.T) {
	for _, p := range problems(500) {
		text, err := formula.Write(p.n, p.l)
		if err != api.OK {
			t.Errorf("Write(%d, %v): %v", p.n, p.l, err)
		}
		wantRead(t, text, p.n, p.l)
		wantRead(t, strings.TrimSuffix(text, "\n"), p.n, p.l)
		wantRead(t, "c a\n"+strings.ReplaceAll(text, "\n", "\ncc\n"), p.n, p.l)
	}
}

func wantUnread(t *testing.T, text string, line int, code api.Errno) {
	t.Helper()
	n, l, got, err := formula.Read(text)
	if n != 0 || len(l) != 0 || got != line || err != code {
		t.Errorf("Read(%.80q): %d, %v, line %d, %v, want line %d, %v", text, n, l, got, err, line, code)
	}
}

func TestReadFirstLine(t *testing.T) {
	for _, first := range []string{
		"", " ", "p", "p cnf", "p cnf 1", "p cnf 1 ", "p cnf 1 1 1", "p cnf 1 1 ", " p cnf 1 1", "p  cnf 1 1", "p cnf  1 1",
		"p cnf 1  1", "p\tcnf 1 1", "P cnf 1 1", "p CNF 1 1", "p dnf 1 1", "p cnf x 1", "p cnf 1 x", "p cnf -1 1", "p cnf 1 -1",
		"p cnf 01 1", "p cnf 1 01", "p cnf +1 1", "p cnf 1 +1", "p cnf 1.0 1", "p cnf 1 0x1", "p cnf -0 1", "p cnf 1 -0",
		"p cnf 1 1\r", "p cnf 1234567890 1", "p cnf 1 1234567890", "p cnf 99999999999999999999 1", "1 0", "0", " c",
		"p cnf 25 1_0", "p cnf 25 -1", "p cnf 25", "p cnf 0000000001 1", "q cnf 1 1", "p cnf １ 1",
	} {
		wantUnread(t, first+"\n1 0\n", 1, api.ErrForm)
		wantUnread(t, "c\nc x\n"+first+"\n", 3, api.ErrForm)
	}
	for _, x := range []struct {
		text string
		line int
		code api.Errno
	}{
		{"", 1, api.ErrForm},
		{"\n", 1, api.ErrForm},
		{"c", 2, api.ErrForm},
		{"c\n", 2, api.ErrForm},
		{"c\nc\nc\n", 4, api.ErrForm},
		{"c\n\nc\n", 2, api.ErrForm},
		{"p cnf 25 0\n", 1, api.ErrRange},
		{"p cnf 25 0", 1, api.ErrRange},
		{"p cnf 999999999 0\n", 1, api.ErrRange},
		{"p cnf 25 4097\n", 1, api.ErrRange},
		{"p cnf 24 4097\n", 1, api.ErrLimit},
		{"c\np cnf 0 999999999\n0\n", 2, api.ErrLimit},
		{"p cnf 1 5000\n", 1, api.ErrLimit},
	} {
		wantUnread(t, x.text, x.line, x.code)
	}
}

func TestReadClauseLines(t *testing.T) {
	long := strings.Repeat("1 ", 65)
	for line, code := range map[string]api.Errno{
		"":                       api.ErrForm,
		" ":                      api.ErrForm,
		"1":                      api.ErrForm,
		"1 2":                    api.ErrForm,
		"1 0 2 0":                api.ErrForm,
		"0 0":                    api.ErrForm,
		"1 0 ":                   api.ErrForm,
		" 1 0":                   api.ErrForm,
		"1  0":                   api.ErrForm,
		"1 0\r":                  api.ErrForm,
		"1\t0":                   api.ErrForm,
		"1 -0":                   api.ErrForm,
		"-0":                     api.ErrForm,
		"00":                     api.ErrForm,
		"01 0":                   api.ErrForm,
		"-01 0":                  api.ErrForm,
		"+1 0":                   api.ErrForm,
		"--1 0":                  api.ErrForm,
		"- 1 0":                  api.ErrForm,
		"-":                      api.ErrForm,
		"x 0":                    api.ErrForm,
		"1 x 0":                  api.ErrForm,
		"1 0 c":                  api.ErrForm,
		"1_0 0":                  api.ErrForm,
		"p cnf 3 1":              api.ErrForm,
		"1000000000 0":           api.ErrForm,
		"-1000000000 0":          api.ErrForm,
		"99999999999999999999 0": api.ErrForm,
		"999999999 0":            api.ErrRange,
		"-999999999 0":           api.ErrRange,
		"4 0":                    api.ErrRange,
		"-4 0":                   api.ErrRange,
		"1 2 3 4 0":              api.ErrRange,
		"4 x 0":                  api.ErrForm,
		"4 1":                    api.ErrForm,
		long + "0":               api.ErrLimit,
		long + "4 0":             api.ErrLimit,
		"4 " + long + "0":        api.ErrLimit,
		long + "1":               api.ErrForm,
		long + "x 0":             api.ErrForm,
		long + "0 0":             api.ErrForm,
	} {
		wantUnread(t, "p cnf 3 2\n"+line+"\n0\n", 2, code)
		wantUnread(t, "c\np cnf 3 2\nc\n1 0\nc\n"+line+"\nc\n", 6, code)
		if line != "" { // which is no line at the end of the text
			wantUnread(t, "p cnf 3 1\n"+line, 2, code)
		}
		wantUnread(t, "p cnf 3 0\n"+line+"\n", 2, api.ErrForm)
	}
	wantUnread(t, "p cnf 0 1\n1 0\n", 2, api.ErrRange)
}

func TestReadCounts(t *testing.T) {
	for _, x := range []struct {
		text string
		line int
	}{
		{"p cnf 3 0\n0\n", 2},
		{"p cnf 3 1\n1 0\n2 0\n", 3},
		{"p cnf 3 1\n1 0\nc\n\n", 4},
		{"p cnf 3 1\n1 0\n9 9\n", 3},
		{"p cnf 3 1\n", 2},
		{"p cnf 3 1", 2},
		{"p cnf 3 2\n1 0\n", 3},
		{"p cnf 3 2\n1 0\nc", 4},
		{"p cnf 3 2\n1 0\nc\n", 4},
		{"p cnf 3 4096\n" + strings.Repeat("0\n", 4095), 4097},
		{"p cnf 3 4096\n" + strings.Repeat("0\n", 4097), 4098},
	} {
		wantUnread(t, x.text, x.line, api.ErrForm)
	}
}
