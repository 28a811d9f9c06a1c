package addr

import (
	"slices"
	"strings"
	"testing"

	"franking/api"
)

func TestParse(t *testing.T) {
	for s, want := range map[string][]Addr{
		"": nil, " \t": nil, "a@b": {{"", "a", "b"}}, "Ann <a@b>": {{"Ann", "a", "b"}}, " a @\tb , <c@d>": {{"", "a", "b"}, {"", "c", "d"}},
		"\"A, \\\"B\" < a @ b > ,x@y": {{"A, \"B", "a", "b"}, {"", "x", "y"}}, "Ann  Lee\t<a@b>": {{"Ann  Lee", "a", "b"}}, "\"\"<a@b>": {{"", "a", "b"}},
		"a@b (x) <c@d>": {{"a@b (x)", "c", "d"}}, "é\n<a@b>": {{"é\n", "a", "b"}}, "\" a \" <a@b>": {{" a ", "a", "b"}}, "a@b, \"C\" <c@d>,\t\"D\"<e@f>": {{"", "a", "b"}, {"C", "c", "d"}, {"D", "e", "f"}}, "a.b+c@[1.2];": {{"", "a.b+c", "[1.2];"}}, "<a@b>\t": {{"", "a", "b"}},
	} {
		if got, err := Parse(s); !slices.Equal(got, want) || err != api.OK {
			t.Errorf("P12.1: Parse(%q): %q, %d", s, got, err)
		}
	}
	for _, s := range []string{
		",", "a@b,", ",a@b", "a@b,,c@d", "a@b, ", "a", "@b", "a@", "a@b@c", "a b@c", "<a@b", "a@b>", "<>", "<a>", "<@>", "Ann <a@b> x", "Ann <a@b> <c@d>", "\"a\"@b", "\"a@b\"", "\"a@b\", c@d", "\"a\" b <c@d>",
		"b \"a\" <c@d>", "\"a <c@d>", "\"a", "\"\\x\" <a@b>", "\"a\"", "(a)@b", "a@b(c)", "é@b", "a@é", "<a,b@c>", "<<a@b>>", "<a\"@b>", "a@b c@d", "Ann", "a\r@b", "<a@b\n>",
	} {
		if got, err := Parse(s); got != nil || err != api.EFORM {
			t.Errorf("P12.1: Parse(%q): %q, %d", s, got, err)
		}
	}
}

func TestShow(t *testing.T) {
	for _, c := range []struct {
		l    []Addr
		want string
	}{
		{nil, ""}, {[]Addr{{"", "a", "b"}}, "a@b"}, {[]Addr{{"Ann Lee 2", "a", "b"}, {"", "c", "d"}}, "Ann Lee 2 <a@b>, c@d"}, {[]Addr{{"09 AZ az", "a", "b"}}, "09 AZ az <a@b>"}, {[]Addr{{"a[z", "a", "b"}}, "\"a[z\" <a@b>"}, {[]Addr{{"a  b", "a", "b"}}, "\"a  b\" <a@b>"},
		{[]Addr{{" a", "a", "b"}}, "\" a\" <a@b>"}, {[]Addr{{"a ", "a", "b"}}, "\"a \" <a@b>"}, {[]Addr{{"a\"b", "a", "b"}}, "\"a\\\"b\" <a@b>"}, {[]Addr{{" ", "a", "b"}}, "\" \" <a@b>"},
		{[]Addr{{"a.b", "a", "b"}}, "\"a.b\" <a@b>"}, {[]Addr{{"é", "a", "b"}}, ""}, {[]Addr{{"a", "", "b"}}, ""}, {[]Addr{{"a", "a", ""}}, ""}, {[]Addr{{"", "a b", "c"}}, ""}, {[]Addr{{"", "a", "b"}, {"", "a", "b@c"}}, ""},
		{[]Addr{{"\n", "a", "b"}}, ""}, {[]Addr{{strings.Repeat(".", api.MaxLine+1), "a", "b"}}, ""}, {[]Addr{{"", "é", "b"}}, ""}, {[]Addr{{"a\tb", "a", "b"}}, "\"a\tb\" <a@b>"},
	} {
		got := Show(c.l)
		if got != c.want {
			t.Errorf("P12.1: Show(%q) = %q", c.l, got)
		}
		if back, err := Parse(got); got != "" && (!slices.Equal(back, c.l) || err != api.OK) {
			t.Errorf("P12.1: Parse(%q): %q, %d", got, back, err)
		}
	}
	for c := range 256 {
		s := string([]byte{byte(c)})
		want := c > 32 && c < 127 && !strings.Contains("<>,\"@()", s)
		if (Show([]Addr{{"", s, "b"}}) != "") != want || (Show([]Addr{{"", "a", s}}) != "") != want {
			t.Errorf("P12.1: byte %d in a local or host", c)
		}
		if l, err := Parse("x" + s + "y@b"); (err == api.OK && len(l) == 1 && l[0].Local == "x"+s+"y") != want {
			t.Errorf("P12.1: Parse with byte %d", c)
		}
	}
}

func TestIMAP(t *testing.T) {
	for _, c := range []struct {
		l    []Addr
		want string
	}{
		{nil, "NIL"}, {[]Addr{}, "NIL"}, {[]Addr{{"Ann", "a", "b"}}, `(("Ann" NIL "a" "b"))`}, {[]Addr{{"", "a", "b"}, {"é", "", "\""}}, "((NIL NIL \"a\" \"b\")({2}\r\né NIL \"\" \"\\\"\"))"},
	} {
		if got := IMAP(c.l); got != c.want {
			t.Errorf("P12.1: IMAP(%q) = %q", c.l, got)
		}
	}
}
