package code

import (
	"bytes"
	"encoding/base64"
	"strings"
	"testing"

	"franking/api"
)

// sample makes bytes of all kinds.
func sample(n int) []byte {
	b := make([]byte, n)
	x := uint32(n + 1)
	for i := range b {
		x = x*1664525 + 1013904223
		b[i] = "ab =\t\r\n\x00\xffz"[x>>24%10]
		if x>>20&1 == 1 {
			b[i] = byte(x >> 8)
		}
	}
	return b
}

func TestBase64(t *testing.T) {
	for s, want := range map[string]string{"": "", "abc": "YWJj\r\n", "a": "YQ==\r\n", "ab": "YWI=\r\n", "\xff\xff\xfe": "///+\r\n"} {
		if got := Base64([]byte(s)); string(got) != want {
			t.Errorf("P13.1: Base64(%q) = %q", s, got)
		}
	}
	for n := range 400 {
		b := sample(n)
		got := string(Base64(b))
		if strings.ReplaceAll(got, "\r\n", "") != base64.StdEncoding.EncodeToString(b) {
			t.Fatalf("P13.1: Base64 of %d bytes: %q", n, got)
		}
		lines := strings.SplitAfter(got, "\r\n")
		for i, l := range lines {
			if last := i == len(lines)-1; last && l != "" || !last && (len(l) > 78 || len(l) != 78 && i < len(lines)-2) {
				t.Fatalf("P13.1: the lines of Base64 of %d bytes: %q", n, got)
			}
		}
		if back, err := FromBase64([]byte(got)); err != api.OK || !bytes.Equal(back, b) {
			t.Fatalf("P13.1: FromBase64 of %d bytes: %d", n, err)
		}
	}
}

func TestFromBase64(t *testing.T) {
	for s, want := range map[string]string{"": "", " \t\r\n": "", "Y W\tJ\r\nj": "abc", "YQ==": "a", "YQ=\n=\r": "a", "YWI=": "ab"} {
		if got, err := FromBase64([]byte(s)); string(got) != want || err != api.OK {
			t.Errorf("P13.1: FromBase64(%q) = %q, %d", s, got, err)
		}
	}
	for _, s := range []string{"Y", "YQ", "YQ=", "YQ==YQ==", "YQ===", "YR==", "YWJ=", "Y===", "====", "=", "Y=Q=", "YW=j", "YW-j", "YWJj\x00", "YWJ\x0b", "YQ==Y", "=YWJ", "YQ== YWJj"} {
		if got, err := FromBase64([]byte(s)); got != nil || err != api.EFORM {
			t.Errorf("P13.1: FromBase64(%q) = %q, %d", s, got, err)
		}
	}
	for c := range 256 {
		_, err := FromBase64([]byte{'Y', 'W', 'J', byte(c)})
		if _, want := base64.StdEncoding.Strict().DecodeString("YWJ" + string([]byte{byte(c)})); (want == nil) != (err == api.OK) {
			t.Errorf("P13.1: FromBase64 with byte %d: %d", c, err)
		}
	}
}

func TestQuoted(t *testing.T) {
	a75 := strings.Repeat("a", 75)
	for s, want := range map[string]string{
		"": "", "a=b": "a=3Db", "é\x00\x7f": "=C3=A9=00=7F", "a \r\n\tb\t": "a=20\r\n\tb=09", "a  \r\n": "a =20\r\n", "\r\n\n\r": "\r\n=0A=0D", " a": " a", " ": "=20", "\r\r\n": "=0D\r\n",
		a75: a75, a75 + "\r\n": a75 + "\r\n", a75[:60] + "\r\n" + a75: a75[:60] + "\r\n" + a75, a75 + "b": a75 + "=\r\nb", a75[:73] + "=": a75[:73] + "=\r\n=3D", a75[:72] + "=": a75[:72] + "=3D", a75 + a75 + "a": a75 + "=\r\n" + a75 + "=\r\na",
		a75[:74] + " b": a75[:74] + " =\r\nb", a75 + " \r\n": a75 + "=\r\n=20\r\n", "~!": "~!",
	} {
		got := Quoted([]byte(s))
		if string(got) != want {
			t.Errorf("P13.1: Quoted(%q) = %q", s, got)
		}
		if back := FromQuoted(got); string(back) != s {
			t.Errorf("P13.1: FromQuoted(%q) = %q", got, back)
		}
	}
	for n := range 600 {
		b := sample(n)
		got := Quoted(b)
		if !bytes.Equal(FromQuoted(got), b) {
			t.Fatalf("P13.1: FromQuoted of Quoted of %d bytes", n)
		}
		for l := range bytes.SplitSeq(got, []byte("\r\n")) {
			if len(bytes.TrimSuffix(l, []byte("="))) > 75 || bytes.ContainsAny(l, "\x00\r\n\x7f") {
				t.Fatalf("P13.1: a line of Quoted: %q", l)
			}
		}
	}
}

func TestFromQuoted(t *testing.T) {
	for s, want := range map[string]string{
		"=41=4a=4A=fF=09": "AJJ\xff\t", "=": "=", "=4": "=4", "=4g": "=4g", "==41": "=A", "a=\r\nb": "ab", "a=\nb": "a=\nb", "a \t\r\nb": "a\r\nb", "a \t": "a", " \r\n": "\r\n",
		"a =\r\nb": "a b", "a= \r\nb": "a=\r\nb", "a=20\r\n": "a \r\n", "a \nb": "a \nb", "a \rb": "a \rb", "=\r\n": "", "=\r\n ": "", "=\r\n \r\n": "\r\n", "\xff": "\xff", "=\r": "=\r", "=3D=": "==",
	} {
		if got := FromQuoted([]byte(s)); string(got) != want {
			t.Errorf("P13.1: FromQuoted(%q) = %q", s, got)
		}
	}
}

func TestDecode(t *testing.T) {
	for _, c := range [][3]string{
		{"base64", "YWJj", "abc"}, {"BASE64", "YWJj", "abc"}, {"base64", "YWJ", "YWJ"}, {"Quoted-Printable", "=41", "A"}, {"", "=41", "=41"}, {"7bit", "YWJj", "YWJj"},
		{"base64 ", "YWJj", "YWJj"}, {"ba\u017fe64", "YWJj", "YWJj"}, {"quoted-printabl\x65", "a ", "a"}, {"quoted\rprintable", "a ", "a "},
	} {
		if got := Decode(c[0], []byte(c[1])); string(got) != c[2] {
			t.Errorf("P13.1: Decode(%q, %q) = %q", c[0], c[1], got)
		}
	}
	b := []byte("abc")
	Decode("8bit", b)[0] = 'x'
	if string(b) != "abc" {
		t.Error("R4: Decode shares its argument")
	}
}
