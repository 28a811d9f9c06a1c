package utf7

import (
	"strings"
	"testing"

	"franking/api"
)

func TestEncodeAndDecode(t *testing.T) {
	for s, want := range map[string]string{
		"": "", "a&b": "a&-b", "é": "&AOk-", "&&": "&-&-", "éé": "&AOkA6Q-", "é&é": "&AOk-&-&AOk-", "~ ": "~ ", "\x7f\x00": "&AH8AAA-",
		"\n": "&AAo-", "日本語": "&ZeVnLIqe-", "~peter/mail/台北/日本語": "~peter/mail/&U,BTFw-/&ZeVnLIqe-", "\U0001f600": "&2D3eAA-",
		"\U00010000x\U0010ffff": "&2ADcAA-x&2,,f,w-", "\uffff\ufffd": "&,,,,,Q-", "-é-": "-&AOk--",
	} {
		got, err := Encode(s)
		if got != want || err != api.OK {
			t.Errorf("P8.1: Encode(%q) = %q, %d", s, got, err)
		}
		if back, err := Decode(want); back != s || err != api.OK {
			t.Errorf("P8.1: Decode(%q) = %q, %d", want, back, err)
		}
	}
	for _, s := range []string{"\xff", "a\xed\xa0\x80", "\xc0\x80", "é\xc3"} {
		if got, err := Encode(s); got != "" || err != api.EARG {
			t.Errorf("P8.1: Encode(%q) = %q, %d", s, got, err)
		}
	}
}

func TestDecodeErrors(t *testing.T) {
	for _, s := range []string{
		"&", "&A", "&AOk", "a&b", "&A-", "&AO-", "&AOl-", "&AOkA-", "&AOk=-", "&AOk-&AOk-", "&AGE-", "&ACY-", "é", "\x7f", "\n", "&2D0-", "&3gA-",
		"&2D0AYQ-", "&3gDYPQ-", "&2D3YPQ-", "&AO k-", "&/,8-", "&AOk.-", "&AOkAAA", "&AOkA6-", "\xff",
	} {
		if got, err := Decode(s); got != "" || err != api.EFORM {
			t.Errorf("P8.1: Decode(%q) = %q, %d", s, got, err)
		}
	}
	// Every pair of characters between & and -: what is accepted must be what Encode writes.
	for a := range 64 {
		for b := range 64 {
			s := "&AO" + alphabet[a:a+1] + alphabet[b:b+1] + "A-"
			if u, err := Decode(s); err == api.OK {
				if back, _ := Encode(u); back != s {
					t.Errorf("P8.1: Decode(%q) = %q", s, u)
				}
			}
		}
	}
}

func TestEveryCharacter(t *testing.T) {
	for r := rune(0); r <= 0x10ffff; r += 1 + r>>9 {
		s := "a" + string(r) + string(r) + "b"
		e, err := Encode(s)
		if back, err2 := Decode(e); back != s || err != api.OK || err2 != api.OK {
			t.Fatalf("P8.1: character %d: %q, %q", r, e, back)
		}
	}
}

func TestGood(t *testing.T) {
	for s, want := range map[string]bool{
		"": false, "a": true, "INBOX": true, "a/b": true, "/a": false, "a/": false, "a//b": false, "/": false, "a*": false, "%": false,
		"a\x1f": false, "\x7f": false, "é & \"\\": true, "\xff": false, strings.Repeat("a", 100): true, strings.Repeat("a", 101): false, strings.Repeat("é", 51): false,
	} {
		if Good(s) != want {
			t.Errorf("P8.1: Good(%q)", s)
		}
	}
}

func TestParent(t *testing.T) {
	for s, want := range map[string]string{"a/b": "a", "a/b/c": "a/b", "/a": "", "a/": "a", "//": "/"} {
		if p, ok := Parent(s); p != want || !ok {
			t.Errorf("P8.1: Parent(%q) = %q, %v", s, p, ok)
		}
	}
	for _, s := range []string{"", "a"} {
		if p, ok := Parent(s); p != "" || ok {
			t.Errorf("P8.1: Parent(%q) = %q, %v", s, p, ok)
		}
	}
}

func TestMatch(t *testing.T) {
	for _, c := range []struct {
		pattern, name string
		want          bool
	}{
		{"", "", true}, {"", "a", false}, {"a", "", false}, {"*", "", true}, {"%", "", true}, {"*", "a/b", true}, {"%", "a/b", false}, {"%", "ab", true},
		{"a/%", "a/b", true}, {"a/%", "a/b/c", false}, {"a/*", "a/b/c", true}, {"a*c", "abcbc", true}, {"a%c", "ab/c", false}, {"%/%", "a/b", true}, {"%/%", "a/b/c", false},
		{"*b%", "ab/bc", true}, {"%a*b", "xa/yb", true}, {"a", "A", false}, {"inbox", "INBOX", true}, {"INBOX", "iNbOx", true}, {"in%", "INBOX", false}, {"IN%", "inbox", true},
		{"inbox/a", "INBOX/a", false}, {"*%*", "///", true}, {"a%b*c", "a/b", false}, {"**a", "ba", true}, {"é%", "éa", true}, {"?", "a", false}, {"a%", "a", true}, {"ab", "abc", false},
	} {
		if Match(c.pattern, c.name) != c.want {
			t.Errorf("P8.1: Match(%q, %q)", c.pattern, c.name)
		}
	}
	if Match(strings.Repeat("*a", 2000)+"b", strings.Repeat("a", 4000)) || !Match(strings.Repeat("%a*", 1000), strings.Repeat("a", 1000)) {
		t.Error("P8.1: Match of many wildcards")
	}
}

// slow is what Match promises, word for word.
func slow(p, s string) bool {
	switch {
	case p == "":
		return s == ""
	case p[0] == '*' || p[0] == '%':
		return slow(p[1:], s) || s != "" && (p[0] == '*' || s[0] != '/') && slow(p, s[1:])
	}
	return s != "" && s[0] == p[0] && slow(p[1:], s[1:])
}

func TestMatchAgainstItsWords(t *testing.T) {
	var words []string
	for n := range 4 * 4 * 4 * 4 * 4 {
		s := ""
		for i := n; i > 0; i /= 4 {
			s += "a/*%"[i%4 : i%4+1]
		}
		words = append(words, s)
	}
	for _, p := range words {
		for _, s := range words[:200] {
			if Match(p, s) != slow(p, s) {
				t.Fatalf("P8.1: Match(%q, %q)", p, s)
			}
		}
	}
}
