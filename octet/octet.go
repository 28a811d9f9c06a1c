// Package octet: strings on the wire: see DOC.md, chapter 1.
package octet

import (
	"bytes"
	"strconv"
	"strings"

	"franking/api"
)

const crlf = "\r\n"

// Fold makes the letters A to Z small.
func Fold(s string) string {
	b := []byte(s)
	for i, c := range b {
		b[i] = small(c)
	}
	return string(b)
}

// Same tells whether two strings are equal when folded.
func Same(a, b string) bool {
	if len(a) != len(b) {
		return false
	}
	for i := range len(a) {
		if small(a[i]) != small(b[i]) {
			return false
		}
	}
	return true
}

// Atom tells whether s consists of one or more atom bytes.
func Atom(s string) bool {
	for i := range len(s) {
		if !atomByte(s[i]) {
			return false
		}
	}
	return s != ""
}

// Quote writes s between quotes, if that is possible.
func Quote(s string) (string, bool) {
	if len(s) > api.MaxLine {
		return "", false
	}
	var t strings.Builder
	t.WriteByte('"')
	for i := range len(s) {
		if !quotable(s[i]) {
			return "", false
		}
		if escaped(s[i]) {
			t.WriteByte('\\')
		}
		t.WriteByte(s[i])
	}
	t.WriteByte('"')
	return t.String(), true
}

// Unquote reads the quoted string at the beginning of s.
func Unquote(s string) (t string, n int, err api.Errno) {
	if s == "" || s[0] != '"' {
		return "", 0, api.EFORM
	}
	var b strings.Builder
	for i := 1; i < len(s); i++ {
		c := s[i]
		switch {
		case c == '"':
			return b.String(), i + 1, api.OK
		case !quotable(c):
			return "", 0, api.EFORM
		case c == '\\':
			i++
			if i == len(s) {
				return "", 0, api.EMORE
			}
			if !escaped(s[i]) {
				return "", 0, api.EFORM
			}
			c = s[i]
		}
		b.WriteByte(c)
	}
	return "", 0, api.EMORE
}

// NString writes s quoted or, where that is impossible, as a literal.
func NString(s string) string {
	if q, ok := Quote(s); ok {
		return q
	}
	return "{" + strconv.Itoa(len(s)) + "}" + crlf + s
}

// Lines splits b after each CRLF.
func Lines(b []byte) [][]byte {
	var l [][]byte
	for len(b) > 0 {
		n := len(b)
		if i := bytes.Index(b, []byte(crlf)); i >= 0 {
			n = i + len(crlf)
		}
		l = append(l, bytes.Clone(b[:n]))
		b = b[n:]
	}
	return l
}

// Num reads a number of 1 to 10 digits.
func Num(s string) (int64, bool) {
	if len(s) < 1 || len(s) > 10 {
		return 0, false
	}
	var n int64
	for i := range len(s) {
		if s[i] < '0' || s[i] > '9' {
			return 0, false
		}
		n = n*10 + int64(s[i]-'0')
	}
	return n, true
}

func small(c byte) byte {
	if 'A' <= c && c <= 'Z' {
		return c + ('a' - 'A')
	}
	return c
}

func atomByte(c byte) bool {
	switch c {
	case '(', ')', '{', '%', '*', '"', '\\', ']':
		return false
	}
	return 33 <= c && c <= 126
}

func quotable(c byte) bool { return c != 0 && c != '\r' && c != '\n' && c <= 127 }

func escaped(c byte) bool { return c == '"' || c == '\\' }
