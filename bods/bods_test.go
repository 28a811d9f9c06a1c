package bods

import (
	"math"
	"testing"

	"franking/part"
)

func TestLine(t *testing.T) {
	for s, want := range map[string]string{
		"\r\nhi": `("text" "plain" NIL NIL NIL "7bit" 2 1)`,
		"":       `("text" "plain" NIL NIL NIL "7bit" 0 0)`,
		"Content-Type: Text/HTML; Charset=UTF-8; x=\"a\\\"b\"\r\nContent-ID: <i>\r\nContent-Description: d\r\n e\r\nContent-Transfer-Encoding: BASE64\r\n\r\na\r\nb\r\n":                                                 `("text" "html" ("charset" "UTF-8" "x" "a\"b") "<i>" "d e" "base64" 6 2)`,
		"Content-Type: image/png\r\nContent-ID:\r\nContent-Transfer-Encoding:\r\n\r\na\r\nb":                                                                                                                             `("image" "png" NIL "" NIL "" 4)`,
		"Content-Type: multipart/mixed; boundary=b\r\n\r\n--b\r\nContent-Description: \xff\r\n\r\nx\r\n--b\r\nContent-Type: multipart/alternative; boundary=c\r\n\r\n--c\r\nContent-Type: a/b\r\n\r\n\r\n--c--\r\n--b--": "((\"text\" \"plain\" NIL NIL {1}\r\n\xff \"7bit\" 1 1)((\"a\" \"b\" NIL NIL NIL \"7bit\" 0) \"alternative\") \"mixed\")",
		"Content-Type: multipart/mixed\r\nContent-Transfer-Encoding: 8bit\r\n\r\n":                                                                                                                                       `("multipart" "mixed" NIL NIL NIL "8bit" 0)`,
	} {
		if got := Line([]byte(s)); got != want {
			t.Errorf("P16.1: Line(%q): %q", s, got)
		}
	}
}

func TestOfPart(t *testing.T) {
	b := []byte("Content-ID: <outer>\r\nContent-Type: multipart/mixed; boundary=b\r\n\r\n--b\r\nContent-ID: <inner>\r\n\r\nContent-ID: <body>\r\n--b\r\n\r\ny\r\n--b--")
	p := part.Parse(b)
	if got := Of(b, p.Kids[0]); got != `("text" "plain" NIL "<inner>" NIL "7bit" 18 1)` {
		t.Errorf("P16.1: Of the first child: %s", got)
	}
	if got := Of(b, p.Kids[1]); got != `("text" "plain" NIL NIL NIL "7bit" 1 1)` {
		t.Errorf("P16.1: Of the second child: %s", got)
	}
	if Of(b, p) != Line(b) {
		t.Error("P16.1: Of the whole message")
	}
}

func TestStrangePartsDoNotPanic(t *testing.T) {
	for _, n := range []int{math.MinInt, -1, 0, 2, 3, math.MaxInt} {
		for _, m := range []int{math.MinInt, -1, 1, 3, math.MaxInt} {
			Of([]byte("ab"), part.Part{From: n, Body: m, To: n})
			Of([]byte("ab"), part.Part{From: m, Body: n, To: m, Kids: []part.Part{{From: n, To: m}}})
		}
	}
}
