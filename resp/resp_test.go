package resp

import (
	"math"
	"slices"
	"strings"
	"testing"

	"franking/api"
	"franking/find"
	"franking/flag"
	"franking/sect"
)

func plain(s string) find.Word { return find.Word{Text: s} }

func words(s string) find.Word {
	w := find.Word{IsList: true}
	for v := range strings.SplitSeq(s, "|") {
		w.List = append(w.List, plain(v))
	}
	return w
}

func show(l []Item) string {
	var out []string
	for _, x := range l {
		out = append(out, Show(x))
	}
	return strings.Join(out, "|")
}

func TestItems(t *testing.T) {
	for s, want := range map[string]string{
		"flags": "FLAGS", "Uid": "UID", "INTERNALDATE": "INTERNALDATE", "rfc822.size": "RFC822.SIZE", "envelope": "ENVELOPE", "bodystructure": "BODYSTRUCTURE", "x-gm-msgid": "X-GM-MSGID", "x-gm-thrid": "X-GM-THRID", "x-gm-labels": "X-GM-LABELS",
		"all": "FLAGS|INTERNALDATE|RFC822.SIZE|ENVELOPE", "Fast": "FLAGS|INTERNALDATE|RFC822.SIZE", "body[]": "BODY[]", "Body.Peek[1.2.mime]<0.5>": "BODY.PEEK[1.2.MIME]<0.5>", "body[header.fields (To cC)]<007.010>": "BODY[HEADER.FIELDS (To cC)]<7.10>",
		"BODY[TEXT]<9999999999.9999999999>": "BODY[TEXT]<9999999999.9999999999>",
	} {
		l, err := Items(plain(s))
		if show(l) != want || err != api.OK {
			t.Errorf("P24.1: Items(%s): %s, %d", s, show(l), err)
		}
		if len(l) > 1 {
			continue
		}
		again, err := Items(plain(Show(l[0])))
		if err != api.OK || show(again) != want {
			t.Errorf("P24.1: Items(Show) of %s: %s, %d", s, show(again), err)
		}
	}
	for _, s := range []string{
		"", "x", "body", "body.peek", "body[", "body]", "body[x]", "body[]x", "body[]<", "body[]<>", "body[]<1>", "body[]<1.>", "body[]<.1>", "body[]<1.0>", "body[]<1.1", "body[]1.1>", "body[]<1.1>x", "body[]<-1.1>", "body[]<1.12345678901>",
		"body[]<12345678901.1>", "body.peek", "bodypeek[]", "body.peek.x[]", "flags ", "rfc822", "body[[]", "body[]]", "body[mime]", "body[1.text]", "body[]<1.1.1>", "body[]<1.1><1.1>", "uid[]", "[]", "body [] ",
	} {
		if l, err := Items(plain(s)); l != nil || err != api.EFORM {
			t.Errorf("P24.1: Items(%s): %s, %d", s, show(l), err)
		}
		if l, err := Items(words(s)); l != nil || err != api.EFORM {
			t.Errorf("P24.1: Items((%s)): %s, %d", s, show(l), err)
		}
	}
}

func TestItemLists(t *testing.T) {
	if l, err := Items(words("flags|body[]|UID|flags")); show(l) != "FLAGS|BODY[]|UID|FLAGS" || err != api.OK {
		t.Errorf("P24.1: Items of a list: %s, %d", show(l), err)
	}
	quoted := find.Word{Text: "FLAGS", Quoted: true}
	for i, w := range []find.Word{{IsList: true}, quoted, {IsList: true, List: []find.Word{quoted}}, {IsList: true, List: []find.Word{words("uid")}}, words("all"), words("uid|fast"), {Text: "ALL", Quoted: true}} {
		if l, err := Items(w); l != nil || err != api.EFORM {
			t.Errorf("P24.1: Items number %d: %s, %d", i, show(l), err)
		}
	}
	many := strings.TrimSuffix(strings.Repeat("uid|", api.MaxKeys), "|")
	if l, err := Items(words(many)); len(l) != api.MaxKeys || err != api.OK {
		t.Errorf("P24.1: MaxKeys items: %d", err)
	}
	if l, err := Items(words(many + "|uid")); l != nil || err != api.ELIMIT {
		t.Errorf("P24.1: more than MaxKeys items: %d", err)
	}
	if _, err := Items(words(many + "|uid|x")); err != api.EFORM {
		t.Errorf("P24.1: EFORM comes before ELIMIT: %d", err)
	}
}

func message() find.Mail {
	return find.Mail{
		N: 2, UID: 5, ID: 8, Thread: 7, Unix: 3600, Body: []byte("Subject: s\r\nTo: a@b\r\n\r\nbody\r\n\x00"),
		Flags: flag.Set{L: []string{`\Seen`, "x"}}, Labels: []string{"All", "a \"b\"", "é"},
	}
}

func TestFetch(t *testing.T) {
	for s, want := range map[string]string{
		"flags|uid": `(FLAGS (\Seen x) UID 5)`, "internaldate": `(INTERNALDATE " 1-Jan-1970 01:00:00 +0000")`, "rfc822.size": "(RFC822.SIZE 30)", "envelope": `(ENVELOPE (NIL "s" NIL NIL NIL ((NIL NIL "a" "b")) NIL NIL NIL NIL))`,
		"bodystructure": `(BODYSTRUCTURE ("text" "plain" NIL NIL NIL "7bit" 7 2))`, "x-gm-msgid|x-gm-thrid": "(X-GM-MSGID 8 X-GM-THRID 7)", "x-gm-labels": "(X-GM-LABELS (\"All\" \"a \\\"b\\\"\" {2}\r\né))",
		"body[text]": "(BODY[TEXT] {7}\r\nbody\r\n\x00)", "body.peek[text]<1.2>": `(BODY[TEXT]<1> "od")`, "body[header.fields (to)]": "(BODY[HEADER.FIELDS (to)] {11}\r\nTo: a@b\r\n\r\n)", "body[2]": "(BODY[2] NIL)", "body[2]<0.1>": "(BODY[2]<0> NIL)",
		"body[]<30.5>": `(BODY[]<30> "")`, "body[]<99.5>": `(BODY[]<99> "")`, "body[1]<0.4>|uid": `(BODY[1]<0> "body" UID 5)`, "body[]<0.7>": `(BODY[]<0> "Subject")`,
	} {
		l, err := Items(words(s))
		if got := Fetch(l, message()); got != want || err != api.OK {
			t.Errorf("P24.1: Fetch(%s): %q, %d", s, got, err)
		}
	}
	m := message()
	m.Unix, m.Labels, m.Flags.L = 1<<60, nil, nil
	l, _ := Items(words("internaldate|x-gm-labels|flags"))
	if got := Fetch(l, m); got != "(INTERNALDATE NIL X-GM-LABELS () FLAGS ())" {
		t.Errorf("P24.1: Fetch: %s", got)
	}
	m.Unix = -1
	if got := Fetch(l[:1], m); got != "(INTERNALDATE NIL)" {
		t.Errorf("P24.1: Fetch: %s", got)
	}
}

func TestWhatItemsNeverReturns(t *testing.T) {
	bad := []Item{
		{}, {Kind: 11}, {Kind: -1}, {Kind: 1, Peek: true}, {Kind: 2, Part: true}, {Kind: 3, From: 1}, {Kind: 4, Many: 1}, {Kind: 5, Spec: sect.Spec{Kind: 1}}, {Kind: 6, Spec: sect.Spec{Path: []int{1}}}, {Kind: 8, Spec: sect.Spec{Names: []string{"a"}}},
		{Kind: 7, Spec: sect.Spec{Kind: 5}}, {Kind: 7, From: 1}, {Kind: 7, Many: 1}, {Kind: 7, Part: true}, {Kind: 7, Part: true, Many: -1}, {Kind: 7, Part: true, From: -1, Many: 1}, {Kind: 7, Part: true, From: 1e10, Many: 1}, {Kind: 7, Part: true, Many: 1e10},
		{Kind: 7, Part: true, Many: math.MaxInt64}, {Kind: 7, Spec: sect.Spec{Names: []string{"a"}}}, {Kind: 7, Spec: sect.Spec{Path: []int{0}}},
	}
	for i, x := range bad {
		if Show(x) != "" {
			t.Errorf("P24.1: Show number %d: %s", i, Show(x))
		}
	}
	if got := Fetch(bad, message()); got != "()" {
		t.Errorf("P24.1: Fetch skips nothing: %q", got)
	}
	if got := Fetch(slices.Insert(bad, 3, Item{Kind: 2}), message()); got != "(UID 5)" || Fetch(nil, message()) != "()" {
		t.Errorf("P24.1: Fetch: %q", got)
	}
}

func TestSees(t *testing.T) {
	for s, want := range map[string]bool{"flags|uid": false, "body[]": true, "body.peek[]": false, "body.peek[]|body[text]<0.1>": true, "bodystructure|envelope": false} {
		l, _ := Items(words(s))
		if Sees(l) != want {
			t.Errorf("P24.1: Sees(%s)", s)
		}
	}
	if Sees(nil) || Sees([]Item{{Kind: 8}}) {
		t.Error("P24.1: Sees")
	}
}
