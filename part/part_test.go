package part

import (
	"slices"
	"strconv"
	"strings"
	"testing"

	"franking/api"
)

// show tells a part's type and the texts of all leaves' bodies.
func show(b []byte, p Part) string {
	if len(p.Kids) == 0 {
		return p.Type + "/" + p.Sub + ":" + string(b[p.Body:p.To])
	}
	s := ""
	for _, k := range p.Kids {
		s += "[" + show(b, k) + "]"
	}
	return p.Sub + s
}

func parsed(t *testing.T, s string) string {
	t.Helper()
	b := []byte(s)
	p := Parse(b)
	if p.From != 0 || p.To != len(b) {
		t.Errorf("P14.1: Parse(%q) from %d to %d", s, p.From, p.To)
	}
	return show(b, p)
}

func TestType(t *testing.T) {
	for s, want := range map[string]string{
		"": "text/plain", "text/html": "text/html", " TEXT / HTML ": "text/html", "a/b;": "a/b", "a/b ; ": "a/b", "a/b;;": "text/plain", "a/b; ;": "text/plain", "a/b;Name=V": "a/b name=V",
		"a/b ;\tx = \"q;\\\" /\" ; y=z;": "a/b x=q;\" / y=z", "a/b;x=1;x=2": "a/b x=1 x=2", "a": "text/plain", "a/": "text/plain", "/b": "text/plain", "a/b/c": "text/plain", "a/b c": "text/plain",
		"a/b;x": "text/plain", "a/b;x=": "text/plain", "a/b;=y": "text/plain", "a/b;x=y z": "text/plain", "a/b;x=y=z": "text/plain", "a/b;x=y/z": "text/plain", "a/b;x=\"y": "text/plain",
		"a/b;x=\"y\"z": "text/plain", "a/b x=y": "text/plain", "a/b;x=(y)": "text/plain", "é/b": "text/plain", "a b/c": "text/plain", "a/b,c": "a/b,c", "\"a\"/b": "text/plain", "a/b;x=\"\"": "a/b x=", "a/b;\"x\"=y": "text/plain",
		"a/b;x=\"\\y\"": "text/plain", "a/b\r\n;x=y": "text/plain",
	} {
		ty, sub, params := Type(s)
		got := ty + "/" + sub
		for _, p := range params {
			got += " " + p[0] + "=" + p[1]
		}
		if got != want {
			t.Errorf("P14.1: Type(%q): %s", s, got)
		}
	}
}

func TestLeaves(t *testing.T) {
	for s, want := range map[string]string{
		"": "text/plain:", "\r\nhi": "text/plain:hi", "Content-Type: A/B\r\n\r\nx\r\n": "a/b:x\r\n", "Content-Type: bad\r\n\r\nx": "text/plain:x", "Content-Type: multipart/mixed\r\n\r\n--\r\n": "multipart/mixed:--\r\n",
		"Content-Type: multipart/mixed; boundary=b\r\n\r\n--b--\r\n--b\r\n\r\nx": "multipart/mixed:--b--\r\n--b\r\n\r\nx", "Content-Type: multipart/mixed; boundary=b\r\n\r\nno": "multipart/mixed:no",
		"Content-Type: text/mixed; boundary=b\r\n\r\n--b\r\n\r\nx": "text/mixed:--b\r\n\r\nx", "Content-Type: multipart/mixed; boundary=\"\"; boundary=b\r\n\r\n--b\r\n\r\nx": "multipart/mixed:--b\r\n\r\nx",
	} {
		if got := parsed(t, s); got != want {
			t.Errorf("P14.1: Parse(%q): %q", s, got)
		}
	}
}

func TestChildren(t *testing.T) {
	const h = "Content-Type: multipart/mixed; boundary=b\r\n\r\n"
	for body, want := range map[string]string{
		"pre\r\n--b\r\n\r\none\r\n--b\r\nContent-Type: text/html\r\n\r\ntwo\r\n\r\n--b--\r\npost": "mixed[text/plain:one][text/html:two\r\n]",
		"--b":                       "mixed[text/plain:]",
		"--b\r\n":                   "mixed[text/plain:]",
		"--b\r\n--b\r\n--b--":       "mixed[text/plain:][text/plain:]",
		"--b\r\n\r\n--b--":          "mixed[text/plain:]",
		"--b\r\n\r\n\r\n--b--":      "mixed[text/plain:]",
		"--b\r\n\r\nx":              "mixed[text/plain:x]",
		"--b\r\n\r\nx\r\n":          "mixed[text/plain:x\r\n]",
		"--b \t\r\n\r\nx\r\n--b-- ": "mixed[text/plain:x]",
		"--b\r\n\r\nx\r\n--b --\r\n--bb\r\n --b\r\n--b---\r\n--b-- x\r\n--B\r\n-b": "mixed[text/plain:x\r\n--b --\r\n--bb\r\n --b\r\n--b---\r\n--b-- x\r\n--B\r\n-b]",
		"--b\r\n\r\nx\n--b\ny\r\n--b\r":                                            "mixed[text/plain:x\n--b\ny\r\n--b\r]",
		"--b\r\nno header end\r\n--b--":                                            "mixed[text/plain:]",
		"--b\r\n\r\nx\r\n--b--\r\n--b\r\n\r\ny":                                    "mixed[text/plain:x]",
	} {
		if got := parsed(t, h+body); got != want {
			t.Errorf("P14.1: Parse of %q: %q", body, got)
		}
	}
}

func TestOffsets(t *testing.T) {
	s := "Content-Type: multipart/mixed; boundary=b\r\n\r\n--b\r\nA: b\r\n\r\nx\r\n--b--"
	at := strings.Index(s, "A: b")
	p := Parse([]byte(s))
	if p.Body != at-5 || len(p.Kids) != 1 || p.Kids[0].From != at || p.Kids[0].Body != at+8 || p.Kids[0].To != at+9 || len(p.Params) != 1 || p.Params[0] != [2]string{"boundary", "b"} {
		t.Errorf("P14.1: offsets: %v", p)
	}
}

func TestBoundaryLength(t *testing.T) {
	for n, kids := range map[int]int{1: 1, 70: 1, 71: 0} {
		c := strings.Repeat("c", n)
		p := Parse([]byte("Content-Type: multipart/x; Boundary=" + c + "\r\n\r\n--" + c + "\r\n\r\nx"))
		if len(p.Kids) != kids {
			t.Errorf("P14.1: a boundary of %d bytes: %d children", n, len(p.Kids))
		}
	}
	p := Parse([]byte("Content-Type: multipart/x; boundary=\"b \"\r\n\r\n--b\r\n--b \r\n\r\nx\r\n--b--\r\n--b --"))
	if len(p.Kids) != 1 || p.Kids[0].To-p.Kids[0].Body != 8 {
		t.Errorf("P14.1: a boundary that ends with a space: %v", p.Kids)
	}
}

func nested(depth int) string {
	s := "\r\nx"
	for i := range depth {
		b := "b" + strconv.Itoa(i)
		s = "Content-Type: multipart/x; boundary=" + b + "\r\n\r\n--" + b + "\r\n" + s
	}
	return s
}

func TestDepth(t *testing.T) {
	for depth, want := range map[int]int{0: 1, 1: 2, api.MaxDepth: api.MaxDepth + 1, api.MaxDepth + 1: api.MaxDepth + 1, api.MaxDepth + 5: api.MaxDepth + 1} {
		if n := Count(Parse([]byte(nested(depth)))); n != want {
			t.Errorf("P14.1: %d levels: %d parts", depth, n)
		}
	}
}

func TestMaxParts(t *testing.T) {
	multi := func(b string, kids ...string) string {
		s := "Content-Type: multipart/x; boundary=" + b + "\r\n\r\n"
		for _, k := range kids {
			s += "--" + b + "\r\n" + k + "\r\n"
		}
		return s + "--" + b + "--"
	}
	leaf := "\r\nx"
	if n := Count(Parse([]byte(multi("a", slices.Repeat([]string{leaf}, api.MaxParts-1)...)))); n != api.MaxParts {
		t.Errorf("P14.1: %d parts", n)
	}
	if n := Count(Parse([]byte(multi("a", slices.Repeat([]string{leaf}, api.MaxParts)...)))); n != 1 {
		t.Errorf("P14.1: %d parts where there would be too many", n)
	}
	// 1 and 3 parts, then 100 in the first child; 97 do not fit in the second, but 96 do in the third.
	many := func(b string, n int) string { return multi(b, slices.Repeat([]string{leaf}, n)...) }
	p := Parse([]byte(multi("a", many("b", 100), many("c", 97), many("d", 96))))
	if len(p.Kids) != 3 || len(p.Kids[0].Kids) != 100 || len(p.Kids[1].Kids) != 0 || len(p.Kids[2].Kids) != 96 || Count(p) != 200 {
		t.Errorf("P14.1: %d parts in preorder", Count(p))
	}
	// In preorder, the grandchildren are counted before the second child's children.
	p = Parse([]byte(multi("a", multi("b", many("c", 150)), many("d", 60))))
	if Count(p) != 154 || len(p.Kids[0].Kids[0].Kids) != 150 || len(p.Kids[1].Kids) != 0 {
		t.Errorf("P14.1: %d parts in preorder", Count(p))
	}
}

func TestFind(t *testing.T) {
	b := []byte("Content-Type: multipart/x; boundary=a\r\n\r\n--a\r\nContent-Type: multipart/y; boundary=b\r\n\r\n--b\r\n\r\n1\r\n--b\r\n\r\n2\r\n--b--\r\n--a\r\n\r\n3\r\n--a--")
	p := Parse(b)
	for _, c := range []struct {
		path []int
		want string
	}{
		{nil, "x[y[text/plain:1][text/plain:2]][text/plain:3]"}, {[]int{1}, "y[text/plain:1][text/plain:2]"}, {[]int{1, 2}, "text/plain:2"}, {[]int{2}, "text/plain:3"}, {[]int{2, 1}, "text/plain:3"}, {[]int{1, 1, 1}, "text/plain:1"},
		{[]int{3}, ""}, {[]int{0}, ""}, {[]int{-1}, ""}, {[]int{2, 2}, ""}, {[]int{2, 1, 1}, ""}, {[]int{1, 3}, ""}, {[]int{2, 0}, ""}, {[]int{1 << 62}, ""},
	} {
		q, ok := Find(p, c.path...)
		if ok != (c.want != "") || ok && show(b, q) != c.want || !ok && (q.Kids != nil || q.Type != "") {
			t.Errorf("P14.1: Find(%v): %v", c.path, q)
		}
	}
	q, _ := Find(p)
	q.Kids[0].Kids[0].Sub = "?"
	q.Params[0][1] = "?"
	if p.Kids[0].Kids[0].Sub == "?" || p.Params[0][1] == "?" {
		t.Error("R4: Find shares its argument")
	}
	if q, ok := Find(Parse([]byte("\r\nx")), 1); !ok || q.To != 3 || Count(q) != 1 {
		t.Error("P14.1: Find of 1 in a leaf")
	}
}
