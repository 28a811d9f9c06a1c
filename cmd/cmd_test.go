package cmd

import (
	"strconv"
	"strings"
	"testing"

	"franking/api"
	"franking/find"
)

// show writes words: 'a is a quoted one, and (a b) a list.
func show(l []find.Word) string {
	var out []string
	for _, w := range l {
		switch {
		case w.IsList:
			out = append(out, "("+show(w.List)+")")
		case w.Quoted:
			out = append(out, "'"+w.Text)
		default:
			out = append(out, w.Text)
		}
	}
	return strings.Join(out, " ")
}

func text(c Cmd) string { return strings.TrimSuffix(c.Tag+"|"+c.Name+"|"+show(c.Args), "|") }

func TestParse(t *testing.T) {
	for s, want := range map[string]string{
		"a1 noop\r\n": "a1|NOOP", "!~ a!z~AZ !~\r\n": "!~|A!Z~AZ|!~", "A.]}[ x-Y/z{": "", "a select \"in \\\"b\\\\ox\"\r\n": "a|SELECT|'in \"b\\ox", "a b c (d (e) () \"f\") g\r\n": "a|B|c (d (e) () 'f) g", "a b {3}\r\nx\r\n\r\n": "a|B|'x\r\n",
		"a b {0}\r\n\r\n": "a|B|'", "a b {2+}\r\n\x00\xff ({01}\r\n))\r\n": "a|B|'\x00\xff (')" + ")", "a fetch 1 BODY[HEADER.FIELDS (A B)]<0.1>x\r\n": "a|FETCH|1 BODY[HEADER.FIELDS (A B)]<0.1>x",
		"a b[ \x00\xff\"(] c\r\n": "a|B[ \x00\xff\"(]|c", "a b []]x\\%*}+\r\n": "a|B|[]]x\\%*}+", "]}[ b\r\n": "]}[|B", "a b \"\" {0000000001+}\r\nx\r\n": "a|B|' 'x", "a b [][(]\r\n": "a|B|[][(]", "a b \"\x7f\t\"\r\n": "a|B|'\x7f\t",
		"a é\r\n": "", "a bé\r\n": "", "\u00e9 b\r\n": "", "a x[é]y\r\n": "a|X[é]Y",
	} {
		s += "rest"
		c, n, err := Parse([]byte(s))
		if want == "" {
			if err == api.OK {
				t.Errorf("P23.1: Parse(%q): %s", s, text(c))
			}
		} else if text(c) != want || n != len(s)-4 || err != api.OK {
			t.Errorf("P23.1: Parse(%q): %q, %d, %d", s, text(c), n, err)
		}
	}
}

// TestFaults marks in each stream the byte at which the fault is found; n is behind the next CRLF.
func TestFaults(t *testing.T) {
	for i, s := range []string{
		"~\r\nx\r\n", "~ b\r\n", "~(a b\r\n", "a~(b c\r\n", "a~+ b\r\n", "a~* b\r\n", "a~\\\r\n", "a~\x7f b\r\n", "a~\r\n", "a ~\r\n", "a ~ b\r\n", "a ~\"b\"\r\n", "a ~(b)\r\n", "a ~{1}\r\nx\r\n", "a b ~\r\n", "a b ~ c\r\n", "a b~\n\r\n",
		"a b\r~x\r\n", "a b\r~\r\n", "a b c~(d)\r\n", "a b c~\"d\"\r\n", "a b c~{1}\r\n", "a b ~)\r\n", "a b (c~\r\n", "a b (~ c)\r\n", "a b (c ~)\r\n", "a b (c)~d\r\n", "a b (c)~(d)\r\n", "a b \"c\"~d\r\n", "a b \"c~\r\n\"\r\n", "a b \"\\~c\"\r\n", "a b \"\\~\r\n",
		"a b \"~\x00\"\r\n", "a b \"~\x80\"\r\n", "a b {~}\r\n", "a b {~+}\r\n", "a b {1234567890~1}\r\n", "a b {1~x}\r\n", "a b {1+~+}\r\n", "a b {1}~x\r\n", "a b {1}\r~x\r\n", "a b {1}\r\nx~y\r\n", "a b [~\r\n", "a b [x~\n]\r\n", "a b [x\x00~\r]\r\nz\r\n",
		"a b {1}\r\n\r~x\r\n", "a b (c~\"\"\r\n", "a ~\x1f\r\n", "a b ~\x80\r\n", "a b {99999}\r~x\r\n\r\n", "a b (\"c\"~x)\r\n",
	} {
		at := strings.IndexByte(s, '~')
		s = s[:at] + s[at+1:]
		want := at + strings.Index(s[at:], "\r\n") + 2
		if c, n, err := Parse([]byte(s)); err != api.EFORM || n != want || c.Tag != "" || c.Name != "" || c.Args != nil {
			t.Errorf("P23.1: fault number %d, %q: %d, %d; not %d", i, s, n, err, want)
		}
		prefixes(t, s)
	}
}

// prefixes checks P23.2: a prefix has the result of the whole stream, or EMORE.
func prefixes(t *testing.T, s string) {
	t.Helper()
	c, n, err := Parse([]byte(s))
	for i := range len(s) {
		if d, m, e := Parse([]byte(s[:i])); e == api.EMORE && (m != 0 || d.Tag != "") || e != api.EMORE && (text(d) != text(c) || m != n || e != err) {
			t.Fatalf("P23.2: Parse(%q): %q, %d, %d; of the first %d bytes: %q, %d, %d", s, text(c), n, err, i, text(d), m, e)
		} else if e == api.EMORE && err != api.EMORE && i >= n {
			t.Fatalf("P23.2: Parse(%q) of the first %d bytes is too late", s, i)
		}
	}
}

func TestMore(t *testing.T) {
	for _, s := range []string{"", "a", "a ", "a b", "a b ", "a b\r", "a b (", "a b (c", "a b (c ", "a b (c)", "a b \"", "a b \"\\", "a b {", "a b {1", "a b {1+", "a b {1}", "a b {1}\r", "a b {1}\r\n", "a b {1}\r\nx", "a b [", "a b [x", "a b [x]", "a b {99999}\r", "+", "a b x\"y"} {
		if c, n, err := Parse([]byte(s)); err != api.EMORE || n != 0 || c.Tag != "" {
			t.Errorf("P23.1: Parse(%q): %d, %d", s, n, err)
		}
	}
}

// TestLineLimit writes each line by how many bytes it has before its CRLF, which is not counted.
func TestLineLimit(t *testing.T) {
	fill := func(n int) string { return strings.Repeat("x", n) }
	const m = api.MaxLine
	for i, c := range []struct {
		s    string
		want api.Errno
		n    int
	}{
		{"a " + fill(m-4) + "\r\n", api.OK, m}, {"a " + fill(m-3) + "\r\n", api.OK, m + 1}, {"a " + fill(m-2) + "\r\n", api.OK, m + 2}, {"a " + fill(m-2) + "\r\n\r\n", api.OK, m + 2},
		{"a " + fill(m-1) + "\r\n", api.ELIMIT, m + 3}, {"a " + fill(m) + "\x00\r\n", api.ELIMIT, m + 5},
		{"a " + fill(m-2), api.EMORE, 0}, {"a " + fill(m-2) + "\r", api.EMORE, 0}, {"a " + fill(m-1), api.EMORE, 0}, {"a " + fill(m+9), api.EMORE, 0}, {"a " + fill(m-2) + "\rx", api.EMORE, 0},
		// A byte that does not fit, before the limit and at it.
		{"a " + fill(m-3) + "\x00\r\n", api.EFORM, m + 2}, {"a " + fill(m-2) + "\x00\r\n", api.ELIMIT, m + 3}, {"a b {12345678901" + fill(m) + "\r\n", api.EFORM, m + 18},
		// CR and LF around the limit that are no CRLF, or none behind which the line may end.
		{"a " + fill(m-2) + "\rx\r\n", api.ELIMIT, m + 4}, {"a " + fill(m-2) + "\r\r\n", api.ELIMIT, m + 3}, {"a " + fill(m-2) + "\n\r\n", api.ELIMIT, m + 3}, {"a " + fill(m-3) + "\n\r\n", api.EFORM, m + 2},
		{"a " + fill(m-3) + "\rx\r\n", api.ELIMIT, m + 3}, {"a " + fill(m-3) + "\r\r\n", api.EFORM, m + 2}, {"a " + fill(m-4) + "\rx\r\n", api.EFORM, m + 2},
		{"a b [" + fill(m-5) + "\r\n", api.EFORM, m + 2}, {"a b \"" + fill(m-5) + "\r\n", api.EFORM, m + 2}, {"a b (" + fill(m-5) + "\r\n", api.EFORM, m + 2}, {"a " + fill(m-3) + " \r\n", api.EFORM, m + 2}, {fill(m) + "\r\n", api.EFORM, m + 2}, {"a b " + fill(m-6) + " {\r\n", api.EFORM, m + 2},
		{"a b [" + fill(m-5) + "\rx\r\n", api.ELIMIT, m + 4}, {"a b {2" + fill(m) + "\r\n", api.EFORM, m + 8}, {"a b" + strings.Repeat(" x", 999) + " " + fill(m) + "\r\n", api.ELIMIT, m + 2004},
		// Each kind of word at the end of the line.
		{"a b [" + fill(m-6) + "]\r\n", api.OK, m + 2}, {"a b [" + fill(m-5) + "]\r\n", api.ELIMIT, m + 3}, {"a b \"" + fill(m-6) + "\"\r\n", api.OK, m + 2}, {"a b \"" + fill(m-5) + "\"\r\n", api.ELIMIT, m + 3}, {"a b (" + fill(m-6) + ")\r\n", api.OK, m + 2}, {"a b (" + fill(m-5) + ")\r\n", api.ELIMIT, m + 3},
		// The line of a literal, and the one behind its bytes.
		{"a b " + fill(m-8) + " {0}\r\n\r\n", api.OK, m + 4}, {"a b " + fill(m-9) + " {0+}\r\n\r\n", api.OK, m + 4}, {"a b " + fill(m-7) + " {0}\r\n\r\n", api.ELIMIT, m + 3}, {"a b " + fill(m-8) + " {0+}\r\n\r\n", api.ELIMIT, m + 3},
		{"a b " + fill(m-8) + " {0}\r", api.EMORE, 0}, {"a b " + fill(m-8) + " {0}\rx\r\n", api.ELIMIT, m + 4}, {"a b " + fill(m-12) + " {65537}\r\n", api.ELIMIT, m + 2}, {"a b " + fill(m-10) + " {0}\r\n" + fill(3), api.EMORE, 0},
		{"a b {2}\r\nyy " + fill(m-1) + "\r\n", api.OK, m + 13}, {"a b {2}\r\nyy " + fill(m) + "\r\n", api.ELIMIT, m + 14}, {"a b {2+}\r\n\r\n " + fill(m-1) + "\r\n", api.OK, m + 14},
		{"a b " + fill(m-8) + " {3}\r\n" + fill(3) + " " + fill(m-1) + "\r\n", api.OK, 2*m + 7}, {"a b " + fill(m-8) + " {3}\r\n" + fill(3) + " " + fill(m) + "\r\n\r\n", api.ELIMIT, 2*m + 8},
	} {
		cm, n, err := Parse([]byte(c.s))
		if err != c.want || n != c.n || err != api.OK && (cm.Tag != "" || cm.Name != "" || cm.Args != nil) {
			t.Errorf("P23.1: line number %d: %d, %d", i, n, err)
		}
		for k := max(0, n-6); k < n; k++ {
			if _, n, err := Parse([]byte(c.s[:k])); n != 0 || err != api.EMORE {
				t.Errorf("P23.2: the first %d bytes of line number %d: %d, %d", k, i, n, err)
			}
		}
	}
}

func TestWantsAtTheLineLimit(t *testing.T) {
	line := func(n int, end string) []byte {
		return []byte("a b " + strings.Repeat("x", n-4-len(end)) + end + "\r\n")
	}
	if !Wants(line(api.MaxLine, " {2}")) || Wants(line(api.MaxLine, " {2+}")) {
		t.Error("P23.1: Wants behind a line of MaxLine bytes")
	}
	if Wants(line(api.MaxLine+1, " {2}")) {
		t.Error("P23.1: Wants behind a line of more than MaxLine bytes")
	}
}

func TestShowAtTheLineLimit(t *testing.T) {
	x := func(n int) string { return strings.Repeat("x", n) }
	q := func(s string) find.Word { return find.Word{Text: s, Quoted: true} }
	zero := q("\x00")
	for i, c := range []struct {
		args []find.Word
		want int
	}{
		{[]find.Word{q(x(api.MaxLine - 6))}, api.MaxLine + 2}, {[]find.Word{q(x(api.MaxLine - 5))}, 0}, {[]find.Word{q(x(api.MaxLine))}, 0}, {[]find.Word{q(x(api.MaxLine + 1))}, api.MaxLine + 16},
		{[]find.Word{{Text: x(api.MaxLine - 4)}}, api.MaxLine + 2}, {[]find.Word{{Text: x(api.MaxLine - 3)}}, 0},
		{[]find.Word{q(x(api.MaxLine - 11)), zero}, api.MaxLine + 5}, {[]find.Word{q(x(api.MaxLine - 10)), zero}, 0},
		{[]find.Word{zero, q(x(api.MaxLine - 3))}, api.MaxLine + 13}, {[]find.Word{zero, q(x(api.MaxLine - 2))}, 0},
	} {
		if got := Show(Cmd{"a", "B", c.args}); len(got) != c.want {
			t.Errorf("P23.1: Show at the limit of a line, number %d: %d bytes, not %d", i, len(got), c.want)
		}
	}
}

func TestWordLimit(t *testing.T) {
	for i, c := range []struct {
		s    string
		want api.Errno
	}{
		{"a b" + strings.Repeat(" c", 999) + "\r\n", api.OK}, {"a b" + strings.Repeat(" c", 1000) + "\r\n", api.ELIMIT}, {"a b" + strings.Repeat(" c", 999) + " \r\n", api.ELIMIT}, {"a b" + strings.Repeat(" c", 999) + ")\r\n", api.EFORM},
		{"a b (c" + strings.Repeat(" c", 997) + ")\r\n", api.OK}, {"a b (c" + strings.Repeat(" c", 998) + ")\r\n", api.ELIMIT}, {"a b (c" + strings.Repeat(" c", 997) + " )\r\n", api.ELIMIT}, {"a b" + strings.Repeat(" c", 998) + " ()\r\n", api.OK},
		{"a b" + strings.Repeat(" c", 998) + " (c)\r\n", api.ELIMIT}, {"a b" + strings.Repeat(" c", 998) + " ( )\r\n", api.ELIMIT}, {"a b" + strings.Repeat(" ()", 999) + "\r\n", api.OK}, {"a b" + strings.Repeat(" \"\"", 1000) + "\r\n", api.ELIMIT},
		{"a b" + strings.Repeat(" c", 999) + "  c\r\n", api.ELIMIT},
	} {
		if _, n, err := Parse([]byte(c.s)); err != c.want || n != len(c.s) {
			t.Errorf("P23.1: words number %d: %d of %d, %d", i, n, len(c.s), err)
		}
	}
}

func TestDepthLimit(t *testing.T) {
	deep := func(n int) string { return "a b " + strings.Repeat("(", n) + "c" + strings.Repeat(")", n) + "\r\n" }
	if c, n, err := Parse([]byte(deep(api.MaxDepth))); err != api.OK || n != len(deep(api.MaxDepth)) || Show(c) == "" {
		t.Errorf("P23.1: MaxDepth lists: %d", err)
	}
	if _, n, err := Parse([]byte(deep(api.MaxDepth + 1))); err != api.ELIMIT || n != len(deep(api.MaxDepth+1)) {
		t.Errorf("P23.1: more than MaxDepth lists: %d", err)
	}
	if _, _, err := Parse([]byte("a b " + strings.Repeat("(", 33) + "\x00\r\n")); err != api.ELIMIT {
		t.Errorf("P23.1: the fault at the first byte: %d", err)
	}
	wide := "a b " + strings.Repeat("(", 31) + "() () (c) ()" + strings.Repeat(")", 31) + " ((c) (c))\r\n"
	if _, _, err := Parse([]byte(wide)); err != api.OK {
		t.Errorf("P23.1: many lists beside each other: %d", err)
	}
}

func TestLiteralLimit(t *testing.T) {
	big := strings.Repeat("x", api.MaxLiteral)
	if c, _, err := Parse([]byte("a b {65536}\r\n" + big + "\r\n")); err != api.OK || c.Args[0].Text != big {
		t.Errorf("P23.1: a literal of MaxLiteral bytes: %d", err)
	}
	for _, s := range []string{"a b {65537}\r\n", "a b {9999999999+}\r\n", "a b ({0000065537}\r\n"} {
		if _, n, err := Parse([]byte(s + "x\r\n")); err != api.ELIMIT || n != len(s) {
			t.Errorf("P23.1: Parse(%q): %d, %d", s, n, err)
		}
		prefixes(t, s+"x\r\n")
	}
}

func TestWants(t *testing.T) {
	for s, want := range map[string]bool{
		"a b {1}\r\n": true, "a b {0}\r\n": true, "a b (c {5}\r\n": true, "a b {65536}\r\n": true, "a b {1}\r\nx {2}\r\n": true, "a b {1+}\r\n": false, "a b {1}\r": false, "a b {1}": false, "a b {1}\r\nx": false, "a b {0}\r\n ": false,
		"a b {65537}\r\n": false, "": false, "a b\r\n": false, "a b \"{1}\r\n": false, "a b {9}\r\n{1}\r\n": false, "a b {5}\r\n{1}\r\n": false, "a b {1}\r\nx {2+}\r\n": false, "a  {1}\r\n": false, "{1}\r\n": false, "a b {1}\r\nx\r\n": false, "a b [{1}\r\n": false,
		"a b {1+}\r\nx {2}\r\n": true, "a b {0}\r\n {0}\r\n": true, "a {1}\r\n": false, "a b {1} c {2}\r\n": false,
	} {
		if Wants([]byte(s)) != want {
			t.Errorf("P23.1: Wants(%q)", s)
		}
	}
}

func TestShow(t *testing.T) {
	q := func(s string) find.Word { return find.Word{Text: s, Quoted: true} }
	p := func(s string) find.Word { return find.Word{Text: s} }
	l := func(w ...find.Word) find.Word { return find.Word{IsList: true, List: w} }
	for i, c := range []struct {
		c    Cmd
		want string
	}{
		{Cmd{"a", "NOOP", nil}, "a NOOP\r\n"}, {Cmd{"a", "B", []find.Word{p("c"), q("d\""), l(p("e"), l(), q("\x00"))}}, "a B c \"d\\\"\" (e () {1+}\r\n\x00)\r\n"},
		{Cmd{"a", "B", []find.Word{q(strings.Repeat("é", 5000))}}, "a B {10000+}\r\n" + strings.Repeat("é", 5000) + "\r\n"}, {Cmd{"a", "B[ X]", []find.Word{p("[ (]")}}, "a B[ X] [ (]\r\n"},
		{Cmd{"", "B", nil}, ""}, {Cmd{"a b", "B", nil}, ""}, {Cmd{"a", "", nil}, ""}, {Cmd{"a", "b", nil}, ""}, {Cmd{"a", "B C", nil}, ""}, {Cmd{"a+", "B", nil}, ""}, {Cmd{"a", "B", []find.Word{p("")}}, ""}, {Cmd{"a", "B", []find.Word{p("c d")}}, ""},
		{Cmd{"a", "B", []find.Word{p("\"c\"")}}, ""}, {Cmd{"a", "B", []find.Word{p("(c)")}}, ""}, {Cmd{"a", "B", []find.Word{p("{1+}\r\nx")}}, ""}, {Cmd{"a", "B", []find.Word{p("c\r\n")}}, ""}, {Cmd{"a\r\n", "B", nil}, ""},
		{Cmd{"a", "B", []find.Word{{Text: "x", IsList: true}}}, ""}, {Cmd{"a", "B", []find.Word{{Quoted: true, IsList: true}}}, ""}, {Cmd{"a", "B", []find.Word{{Text: "x", List: []find.Word{p("y")}}}}, ""}, {Cmd{"a", "B", []find.Word{q(strings.Repeat("\x00", api.MaxLiteral+1))}}, ""},
		{Cmd{"a", "B", []find.Word{q(strings.Repeat("x", api.MaxLine-6))}}, "a B \"" + strings.Repeat("x", api.MaxLine-6) + "\"\r\n"}, {Cmd{"a", "B", []find.Word{q(strings.Repeat("x", api.MaxLine-5))}}, ""}, {Cmd{"a", "B", make([]find.Word, 1000)}, ""},
		{Cmd{"a", "B", []find.Word{l(p("c)"))}}, ""}, {Cmd{"a", "B", []find.Word{p("[x")}}, ""}, {Cmd{"a", "(B)", nil}, ""},
	} {
		got := Show(c.c)
		if got != c.want {
			t.Errorf("P23.1: Show number %d: %.80q", i, got)
		}
		if back, n, err := Parse([]byte(got)); got != "" && (err != api.OK || n != len(got) || text(back) != text(c.c)) {
			t.Errorf("P23.1: Parse of Show number %d: %d", i, err)
		}
	}
}

func TestEveryDivision(t *testing.T) {
	pieces := []string{"a", " ", " b", "\r\n", "\r", "\n", "(", ")", "\"", "\\", "{2}\r\n", "{1+}\r\n", "[", "]", "{", "}", "x", "\x00", " {0}\r\n", "\xff"}
	x := uint32(1)
	for range 30000 {
		s := "a b "
		for range 8 {
			x = x*1664525 + 1013904223
			s += pieces[int(x>>10)%len(pieces)]
		}
		s += "\r\n"
		prefixes(t, s)
		if c, n, err := Parse([]byte(s)); err == api.OK {
			if back, _, err := Parse([]byte(Show(c))); err != api.OK || text(back) != text(c) || n > len(s) {
				t.Fatalf("P23.1: Show of %q: %q", s, Show(c))
			}
		}
	}
}

func TestStreamOfCommands(t *testing.T) {
	s, want := "", ""
	for i := range 50 {
		s += "t" + strconv.Itoa(i) + " x {2}\r\n\r\n\r\n"
		want += "t" + strconv.Itoa(i) + "|X|'\r\n;"
	}
	got := ""
	for b := []byte(s); len(b) > 0; {
		c, n, err := Parse(b)
		if err != api.OK {
			t.Fatalf("P23.1: %q: %d", b, err)
		}
		got += text(c) + ";"
		b = b[n:]
	}
	if got != want {
		t.Errorf("P23.1: %q", got)
	}
}
