package head

import (
	"slices"
	"strconv"
	"strings"
	"testing"

	"franking/api"
)

func TestSplit(t *testing.T) {
	for s, want := range map[string]int{
		"": 0, "\r\n": 2, "\r\nbody": 2, "a: b\r\n\r\nbody": 8, "a: b\r\n\r\n\r\n": 8, "a: b": 4, "a: b\r\n": 6, "a\n\nb": 4, "a\r\r\n\nb": 6, "a\r\n \r\n\r\nb": 8, "\n\r\n\r\nx": 5,
	} {
		if h, b := Split([]byte(s)); h != want || b != want {
			t.Errorf("P11.1: Split(%q): %d, %d", s, h, b)
		}
	}
}

func TestFields(t *testing.T) {
	b := "Subject: a\r\n b\r\n\tc \r\nno field\r\n lost: x\r\nX-Y:\r\n: none\r\n\tlost\r\na b: c\r\nA~:v:w\r\n\r\nBody: no\r\n"
	want := []Field{{"Subject", "a b\tc", 0, 21}, {"X-Y", "", 41, 47}, {"A~", "v:w", 70, 78}}
	if got := Fields([]byte(b)); !slices.Equal(got, want) {
		t.Errorf("P11.1: Fields: %v", got)
	}
	for s, want := range map[string][]Field{
		"": nil, "\r\na: b": nil, "a: b": {{"a", "b", 0, 4}}, "a:\r\n b": {{"a", "b", 0, 6}}, " a: b\r\n": nil, "é: b\r\n": nil, "a\x7f: b": nil, "::": nil,
		"a: b\r\n \r\n\r\n c": {{"a", "b", 0, 9}}, "a:b\nc:d": {{"a", "b\nc:d", 0, 7}}, "a:b\rc": {{"a", "b\rc", 0, 5}}, "a\r\n": nil, "abc": nil, "a :b": nil, "!~: b": {{"!~", "b", 0, 5}},
	} {
		if got := Fields([]byte(s)); !slices.Equal(got, want) {
			t.Errorf("P11.1: Fields(%q): %v", s, got)
		}
	}
}

func TestFieldLimit(t *testing.T) {
	var b strings.Builder
	for i := range api.MaxFields + 1 {
		b.WriteString("n" + strconv.Itoa(i) + ": v\r\n w\r\n")
	}
	l := Fields([]byte(b.String()))
	if len(l) != api.MaxFields || l[len(l)-1].Name != "n499" || l[len(l)-1].Value != "v w" {
		t.Errorf("P11.1: %d fields", len(l))
	}
	if _, ok := Get([]byte(b.String()), "n500"); ok {
		t.Error("P11.1: Get of a field beyond the limit")
	}
	if _, ok := Get([]byte(b.String()), "n499"); !ok {
		t.Error("P11.1: Get of the last field")
	}
	if got := Pick([]byte(b.String()), []string{"n500"}, false); string(got) != "\r\n" {
		t.Error("P11.1: Pick of a field beyond the limit")
	}
}

func TestGet(t *testing.T) {
	b := []byte("A: 1\r\nB: 2\r\na: 3\r\n\r\nC: 4")
	if v, ok := Get(b, "a"); v != "1" || !ok {
		t.Errorf("P11.1: Get: %q, %v", v, ok)
	}
	for _, name := range []string{"C", "", "A:", "AB"} {
		if v, ok := Get(b, name); v != "" || ok {
			t.Errorf("P11.1: Get(%q): %q", name, v)
		}
	}
}

func TestValue(t *testing.T) {
	for s, want := range map[string]string{"": "", " \t a \t": "a", "a\r\n b": "a b", "\r\n a\r\n": "a", "a\nb": "a\nb", "\n a": "\n a", "a\r\r\n\n": "a\r\n", " \r\n ": "", "\u00a0": "\u00a0"} {
		if got := Value(s); got != want {
			t.Errorf("P11.1: Value(%q) = %q", s, got)
		}
	}
}

func TestIDs(t *testing.T) {
	for s, want := range map[string][]string{
		"": nil, "<a@b>": {"<a@b>"}, "x<a>y<b>": {"<a>", "<b>"}, "<>": {"<>"}, "<a b>": nil, "<a\tb> <c>": {"<c>"}, "<a<b>": {"<b>"}, "<<>>": {"<>"}, "<a": nil, "a>": nil, "> <a>>": {"<a>"}, "< a> <b>": {"<b>"}, "<a\r\n>": {"<a\r\n>"},
	} {
		if got := IDs(s); !slices.Equal(got, want) {
			t.Errorf("P11.1: IDs(%q): %q", s, got)
		}
	}
}

func TestPick(t *testing.T) {
	b := []byte("A: 1\r\n x\r\njunk\r\nB: 2\r\na: 3\r\n\r\nC: 4")
	for _, c := range []struct {
		names []string
		not   bool
		want  string
	}{
		{[]string{"a"}, false, "A: 1\r\n x\r\na: 3\r\n\r\n"}, {[]string{"a"}, true, "B: 2\r\n\r\n"}, {nil, false, "\r\n"}, {nil, true, "A: 1\r\n x\r\nB: 2\r\na: 3\r\n\r\n"}, {[]string{"c", "b"}, false, "B: 2\r\n\r\n"},
	} {
		if got := Pick(b, c.names, c.not); string(got) != c.want {
			t.Errorf("P11.1: Pick(%q, %v): %q", c.names, c.not, got)
		}
	}
	if got := Pick([]byte("a: b"), []string{"A"}, false); string(got) != "a: b\r\n" {
		t.Errorf("P11.1: Pick of a last line: %q", got)
	}
}
