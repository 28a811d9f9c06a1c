package octet

import (
	"strings"
	"testing"

	"franking/api"
)

func TestFoldAndSame(t *testing.T) {
	for s, want := range map[string]string{"": "", "AZaz09": "azaz09", "@[`{": "@[`{", "É\xff": "É\xff"} {
		if got := Fold(s); got != want {
			t.Errorf("P1.1: Fold(%q) = %q", s, got)
		}
	}
	for c := range 256 {
		s := string([]byte{byte(c)})
		want := s
		if c >= 'A' && c <= 'Z' {
			want = string([]byte{byte(c + 32)})
		}
		if Fold(s) != want {
			t.Errorf("P1.1: Fold of byte %d", c)
		}
		for d := range 256 {
			u := string([]byte{byte(d)})
			if Same(s, u) != (Fold(s) == Fold(u)) {
				t.Errorf("P1.1: Same of bytes %d and %d", c, d)
			}
		}
	}
	if Same("a", "ab") || Same("ab", "a") || !Same("", "") || !Same("aBc", "AbC") {
		t.Error("P1.1: Same")
	}
}

func TestAtom(t *testing.T) {
	for c := range 256 {
		want := c > 32 && c < 127 && !strings.ContainsRune("(){%*\"\\]", rune(c))
		if Atom("x"+string([]byte{byte(c)})+"y") != want {
			t.Errorf("P1.1: Atom with byte %d", c)
		}
	}
	if Atom("") || !Atom("a[b}") {
		t.Error("P1.1: Atom")
	}
}

func TestQuoteEveryByte(t *testing.T) {
	for c := range 256 {
		s := "x" + string([]byte{byte(c)})
		q, ok := Quote(s)
		want := c != 0 && c != 10 && c != 13 && c <= 127
		if ok != want || !ok && q != "" {
			t.Errorf("P1.1: Quote with byte %d: %q, %v", c, q, ok)
		}
		if u, n, err := Unquote(q + "rest"); ok && (u != s || n != len(q) || err != api.OK) {
			t.Errorf("P1.1: Unquote with byte %d: %q, %d, %d", c, u, n, err)
		}
		if c != '"' && c != '\\' {
			if _, _, err := Unquote("\"" + s + "\""); (err == api.OK) != want || !want && err != api.EFORM {
				t.Errorf("P1.1: Unquote of byte %d: %d", c, err)
			}
			if _, _, err := Unquote("\"\\" + s[1:]); err != api.EFORM {
				t.Errorf("P1.1: Unquote of a backslash and byte %d: %d", c, err)
			}
		}
	}
}

func TestQuoteLength(t *testing.T) {
	if q, ok := Quote(strings.Repeat("\\", api.MaxLine)); !ok || len(q) != 2*api.MaxLine+2 {
		t.Error("P1.1: Quote of MaxLine bytes")
	}
	long := strings.Repeat("a", api.MaxLine+1)
	if _, ok := Quote(long); ok {
		t.Error("P1.1: Quote of more than MaxLine bytes")
	}
	if u, n, err := Unquote("\"" + long + "\""); u != long || n != len(long)+2 || err != api.OK {
		t.Error("P1.1: Unquote has no limit of length")
	}
	if NString(long) != "{8193}\r\n"+long {
		t.Error("P1.1: NString of more than MaxLine bytes")
	}
}

func TestUnquoteErrors(t *testing.T) {
	for s, want := range map[string]api.Errno{
		"": api.EFORM, "x": api.EFORM, "\"": api.EMORE, "\"a": api.EMORE, "\"\\": api.EMORE,
		"\"\\\"": api.EMORE, "\"\\x": api.EFORM, "\"\r": api.EFORM, "\"\x80": api.EFORM,
	} {
		if u, n, err := Unquote(s); u != "" || n != 0 || err != want {
			t.Errorf("P1.1: Unquote(%q): %q, %d, %d", s, u, n, err)
		}
	}
}

func TestNString(t *testing.T) {
	for s, want := range map[string]string{"": `""`, `a"\`: `"a\"\\"`, "a\r\n": "{3}\r\na\r\n", "\x80": "{1}\r\n\x80", "\x7f": "\"\x7f\""} {
		if got := NString(s); got != want {
			t.Errorf("P1.1: NString(%q) = %q", s, got)
		}
	}
}

func TestLinesAreCopies(t *testing.T) {
	b := []byte("a\r\n\r\n\r\r\n\nb\r")
	l := Lines(b)
	want := []string{"a\r\n", "\r\n", "\r\r\n", "\nb\r"}
	if len(l) != len(want) {
		t.Fatalf("P1.1: Lines: %q", l)
	}
	for i := range l {
		if string(l[i]) != want[i] {
			t.Errorf("P1.1: line %d is %q", i, l[i])
		}
		l[i] = append(l[i], '?')
		l[i][0] = '?'
	}
	if string(b) != "a\r\n\r\n\r\r\n\nb\r" {
		t.Error("R4: Lines shares its argument")
	}
	if l := Lines([]byte("a")); len(Lines(nil)) != 0 || len(l) != 1 || string(l[0]) != "a" {
		t.Error("P1.1: Lines of nothing, or of one byte")
	}
}

func TestNum(t *testing.T) {
	for s, want := range map[string]int64{"0": 0, "0000000000": 0, "10": 10, "9999999999": 9999999999, "00000000001": -1, "": -1, "+1": -1, "1 ": -1, "a": -1, "/": -1, ":": -1} {
		n, ok := Num(s)
		if ok != (want >= 0) || ok && n != want || !ok && n != 0 {
			t.Errorf("P1.1: Num(%q): %d, %v", s, n, ok)
		}
	}
}
