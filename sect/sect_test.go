package sect

import (
	"math"
	"slices"
	"strings"
	"testing"

	"franking/api"
)

func same(x, y Spec) bool {
	return slices.Equal(x.Path, y.Path) && x.Kind == y.Kind && slices.Equal(x.Names, y.Names)
}

func TestParse(t *testing.T) {
	for s, want := range map[string]Spec{
		"": {}, "1": {Path: []int{1}}, "1.200.3": {Path: []int{1, 200, 3}}, "9.90": {Path: []int{9, 90}}, "header": {Kind: 1}, "Text": {Kind: 2}, "HEADER.FIELDS (TO cc)": {Kind: 3, Names: []string{"TO", "cc"}},
		"header.fields.not (a)": {Kind: 4, Names: []string{"a"}}, "1.2.mime": {Path: []int{1, 2}, Kind: 5}, "header.fields (a a)": {Kind: 3, Names: []string{"a", "a"}}, "header.fields ([)": {Kind: 3, Names: []string{"["}},
	} {
		x, err := Parse(s)
		if err != api.OK || !same(x, want) {
			t.Errorf("P17.1: Parse(%q): %v, %d", s, x, err)
		}
		if again, err := Parse(Show(x)); err != api.OK || !same(again, want) {
			t.Errorf("P17.1: Show of %q: %q", s, Show(x))
		}
	}
	for _, s := range []string{
		" ", "0", "01", "201", "1.", ".1", "1..2", "1.0", "1 ", "-1", "+1", "1.HEADER", "1.TEXT", "1.HEADER.FIELDS (A)", "1.HEADER.FIELDS.NOT (A)", "MIME", "HEADER ", "HEADER (A)", "TEXT.", "BODY", "1.MIME.2", "1.MIME (A)", "1.MIME ",
		"HEADER.FIELDS", "HEADER.FIELDS ", "HEADER.FIELDS ()", "HEADER.FIELDS(A)", "HEADER.FIELDS  (A)", "HEADER.FIELDS (A  B)", "HEADER.FIELDS ( A)", "HEADER.FIELDS (A )", "HEADER.FIELDS (A", "HEADER.FIELDS A)", "HEADER.FIELDS (A) ",
		"HEADER.FIELDS (\"A\")", "HEADER.FIELDS ((A))", "HEADER.FIELDS (é)", "HEADER.FIELDS.NOT", "1MIME", "1.1x", "99999999999", "HEADER.FIELDS (A]", "1.2.", "HEADER.FIELDS )(",
	} {
		if x, err := Parse(s); !same(x, Spec{}) || err != api.EFORM {
			t.Errorf("P17.1: Parse(%q): %v, %d", s, x, err)
		}
	}
}

func TestLimits(t *testing.T) {
	path := strings.TrimSuffix(strings.Repeat("1.", api.MaxDepth), ".")
	if x, err := Parse(path); err != api.OK || Show(x) != path {
		t.Error("P17.1: MaxDepth numbers")
	}
	if _, err := Parse(path + ".1"); err != api.EFORM {
		t.Error("P17.1: more than MaxDepth numbers")
	}
	names := "HEADER.FIELDS (a" + strings.Repeat(" a", api.MaxKeys-1) + ")"
	if x, err := Parse(names); err != api.OK || Show(x) != names {
		t.Error("P17.1: MaxKeys names")
	}
	if _, err := Parse(names[:len(names)-1] + " a)"); err != api.EFORM {
		t.Error("P17.1: more than MaxKeys names")
	}
}

func TestShowAndGetOfWhatParseNeverReturns(t *testing.T) {
	for i, x := range []Spec{
		{Kind: -1}, {Kind: 6}, {Path: []int{0}}, {Path: []int{201}}, {Path: make([]int, 33)}, {Kind: 1, Path: []int{1}}, {Kind: 2, Path: []int{1}}, {Kind: 3}, {Kind: 3, Path: []int{1}, Names: []string{"a"}}, {Kind: 4, Names: []string{""}},
		{Kind: 4, Names: []string{"a b"}}, {Kind: 3, Names: make([]string, 41)}, {Kind: 5}, {Kind: 5, Path: []int{1}, Names: []string{"a"}}, {Names: []string{"a"}}, {Kind: 1, Names: []string{"a"}}, {Kind: math.MaxInt}, {Kind: 4, Path: []int{-1}, Names: []string{"a"}},
	} {
		b, ok := Get([]byte("a: b\r\n\r\nc"), x)
		if Show(x) != "" || b != nil || ok {
			t.Errorf("P17.1: Spec number %d: %q, %q", i, Show(x), b)
		}
	}
}

func TestGet(t *testing.T) {
	b := []byte("A: 1\r\nContent-Type: multipart/x; boundary=b\r\nB: 2\r\n\r\n--b\r\nC: 3\r\n\r\nfirst\r\n--b\r\n\r\nsecond\r\n--b--\r\n")
	at := strings.Index(string(b), "--b")
	for s, want := range map[string]string{
		"": string(b), "HEADER": string(b[:at]), "TEXT": string(b[at:]), "HEADER.FIELDS (b A x)": "A: 1\r\nB: 2\r\n\r\n", "HEADER.FIELDS.NOT (content-type b)": "A: 1\r\n\r\n",
		"1": "first", "2": "second", "1.MIME": "C: 3\r\n\r\n", "2.MIME": "\r\n", "1.1": "first", "1.1.MIME": "C: 3\r\n\r\n", "HEADER.FIELDS (x)": "\r\n",
	} {
		x, _ := Parse(s)
		got, ok := Get(b, x)
		if string(got) != want || !ok {
			t.Errorf("P17.1: Get(%s): %q, %v", s, got, ok)
		}
		if len(got) > 0 {
			got[0] = '?'
		}
	}
	if b[0] != 'A' {
		t.Error("R4: Get shares its argument")
	}
	for _, s := range []string{"3", "1.2", "1.1.1", "3.MIME"} {
		x, _ := Parse(s)
		if got, ok := Get(b, x); got != nil || ok {
			t.Errorf("P17.1: Get(%s): %q, %v", s, got, ok)
		}
	}
	if got, ok := Get(nil, Spec{}); len(got) != 0 || !ok {
		t.Error("P17.1: Get of nothing")
	}
	if got, ok := Get([]byte("a: b\r\n\r\nx"), Spec{Path: []int{1}}); string(got) != "x" || !ok {
		t.Error("P17.1: part 1 of a plain message")
	}
}

func TestCut(t *testing.T) {
	b := []byte("abcd")
	for _, c := range []struct {
		from, many int64
		want       string
	}{
		{0, 4, "abcd"}, {1, 2, "bc"}, {3, 9, "d"}, {4, 1, ""}, {5, 1, ""}, {-1, 2, ""}, {1, -1, ""}, {1, 0, ""}, {2, math.MaxInt64, "cd"}, {math.MaxInt64, math.MaxInt64, ""}, {math.MinInt64, 1, ""},
	} {
		if got := Cut(b, c.from, c.many); string(got) != c.want {
			t.Errorf("P17.1: Cut(%d, %d): %q", c.from, c.many, got)
		}
	}
	Cut(b, 0, 4)[0] = 'x'
	if string(b) != "abcd" {
		t.Error("R4: Cut shares its argument")
	}
}
