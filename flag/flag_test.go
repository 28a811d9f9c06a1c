package flag

import (
	"slices"
	"strconv"
	"strings"
	"testing"

	"franking/api"
)

func TestGood(t *testing.T) {
	for s, want := range map[string]bool{
		`\Answered`: true, `\deleted`: true, `\DRAFT`: true, `\fLAGGED`: true, `\Seen`: true, `\Recent`: false, `\`: false, `Seen`: true, "": false, "a b": false, "a]": false, "é": false, "$x": true,
		strings.Repeat("a", 40): true, strings.Repeat("a", 41): false, `\Seen `: false,
	} {
		if Good(s) != want {
			t.Errorf("P19.1: Good(%q)", s)
		}
	}
}

func TestOf(t *testing.T) {
	for _, c := range []struct {
		l    []string
		want string
	}{
		{nil, "()"}, {[]string{"b", "", "A", "a", "a b", `\seen`, `\Seen`, "B", "x*"}, `(\Seen A b)`}, {[]string{"Seen", `\SEEN`}, `(\Seen Seen)`}, {[]string{"_", "Z", "a", "^"}, "(^ _ a Z)"},
	} {
		l := slices.Clone(c.l)
		if got := Show(Of(l...)); got != c.want || !slices.Equal(l, c.l) {
			t.Errorf("P19.1: Of(%q): %s", c.l, got)
		}
	}
	var l []string
	for i := range 40 {
		l = append(l, "k"+strconv.Itoa(99-i))
	}
	if f := Of(l...); len(f.L) != 30 || f.L[0] != "k60" || f.L[29] != "k89" {
		t.Errorf("P19.1: Of of 40 flags: %v", f.L)
	}
}

func TestParse(t *testing.T) {
	for s, want := range map[string]string{"()": "()", `(\seen x)`: `(\Seen x)`, "(b A)": "(A b)"} {
		if f, err := Parse(s); Show(f) != want || err != api.OK {
			t.Errorf("P19.1: Parse(%q): %q, %d", s, f.L, err)
		}
	}
	for _, s := range []string{"", "(", ")", "a", "(a", "a)", "( )", "(a )", "( a)", "(a  b)", "(a a)", "(a A)", `(\seen \SEEN)`, `(\x)`, "((a))", "(a)b", " (a)", "(a) ", "(" + strings.Repeat("a", 41) + ")", ")("} {
		if f, err := Parse(s); f.L != nil || err != api.EFORM {
			t.Errorf("P19.1: Parse(%q): %q, %d", s, f.L, err)
		}
	}
	many := "(a"
	for i := range 29 {
		many += " k" + strconv.Itoa(i)
	}
	if f, err := Parse(many + ")"); len(f.L) != 30 || err != api.OK {
		t.Errorf("P19.1: 30 flags: %d", err)
	}
	if f, err := Parse(many + " b)"); f.L != nil || err != api.ELIMIT {
		t.Errorf("P19.1: 31 flags: %d", err)
	}
	if _, err := Parse(many + " b B)"); err != api.EFORM {
		t.Errorf("P19.1: EFORM comes before ELIMIT: %d", err)
	}
}

func TestShowIsPlain(t *testing.T) {
	if got := Show(Set{[]string{"b", "a b", "", "b"}}); got != "(b a b  b)" {
		t.Errorf("P19.1: Show: %q", got)
	}
}

func TestHas(t *testing.T) {
	f := Set{[]string{`\Seen`, "x", "a b"}}
	for s, want := range map[string]bool{`\SEEN`: true, "X": true, "A B": true, "Seen": false, "": false} {
		if Has(f, s) != want {
			t.Errorf("P19.1: Has(%q)", s)
		}
	}
}

func TestAddAndLess(t *testing.T) {
	f, g := Set{[]string{"b", `\Seen`}}, Set{[]string{"B", "a", `\SEEN`}}
	if got := Show(Add(f, g)); got != `(\Seen a b)` {
		t.Errorf("P19.1: Add: %s", got)
	}
	if got := Show(Add(g, f)); got != `(\Seen a B)` {
		t.Errorf("P19.1: Add: %s", got)
	}
	if got := Show(Less(g, f)); got != "(a)" {
		t.Errorf("P19.1: Less: %s", got)
	}
	if got := Show(Less(Set{[]string{"c", "a b", "A", "a", "c"}}, Set{[]string{"C", "x"}})); got != "(A)" {
		t.Errorf("P19.1: Less: %s", got)
	}
	if len(Less(f, f).L) != 0 || Show(Less(f, Set{})) != `(\Seen b)` {
		t.Error("P19.1: Less")
	}
}

func TestSame(t *testing.T) {
	for _, c := range []struct {
		f, g []string
		want bool
	}{
		{nil, []string{}, true}, {[]string{"a", "B"}, []string{"b", "A"}, true}, {[]string{"a"}, []string{"a", "b"}, false}, {[]string{"a", "a"}, []string{"a", "b"}, false}, {[]string{"a", "b"}, []string{"a", "a"}, false}, {[]string{"a", "A"}, []string{"A", "a"}, true},
	} {
		if Same(Set{c.f}, Set{c.g}) != c.want {
			t.Errorf("P19.1: Same(%q, %q)", c.f, c.g)
		}
	}
}
