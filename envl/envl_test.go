package envl

import (
	"slices"
	"testing"

	"franking/addr"
)

func TestNoFields(t *testing.T) {
	for _, s := range []string{"", "\r\nDate: x\r\n"} {
		if got := Line([]byte(s)); got != "(NIL NIL NIL NIL NIL NIL NIL NIL NIL NIL)" {
			t.Errorf("P15.1: Line(%q): %s", s, got)
		}
		e := Of([]byte(s))
		if e.Date+e.Subject+e.InReplyTo+e.ID != "" || len(e.From)+len(e.Sender)+len(e.ReplyTo)+len(e.To)+len(e.Cc)+len(e.Bcc) != 0 {
			t.Errorf("P15.1: Of(%q): %v", s, e)
		}
	}
}

const all = "date: D\r\nSUBJECT: S\r\n \"q\"\r\nFrom: Ann <f@h>\r\nSender: s@h\r\nReply-To: r@h\r\nTo: t@h, u@h\r\nCc: c@h\r\nBcc: b@h\r\nIn-Reply-To: <i>\r\nMessage-ID: <m>\r\nSubject: second\r\n\r\n"

func TestAllFields(t *testing.T) {
	want := `("D" "S \"q\"" (("Ann" NIL "f" "h")) ((NIL NIL "s" "h")) ((NIL NIL "r" "h")) ((NIL NIL "t" "h")(NIL NIL "u" "h")) ((NIL NIL "c" "h")) ((NIL NIL "b" "h")) "<i>" "<m>")`
	if got := Line([]byte(all)); got != want {
		t.Errorf("P15.1: Line: %s", got)
	}
	e := Of([]byte(all))
	if e.Date != "D" || e.Subject != "S \"q\"" || e.InReplyTo != "<i>" || e.ID != "<m>" || !slices.Equal(e.From, []addr.Addr{{Name: "Ann", Local: "f", Host: "h"}}) || len(e.To) != 2 || e.Bcc[0].Local != "b" || e.Cc[0].Local != "c" || e.Sender[0].Local != "s" || e.ReplyTo[0].Local != "r" {
		t.Errorf("P15.1: Of: %v", e)
	}
}

func TestFromReplacesOthers(t *testing.T) {
	for _, s := range []string{"From: f@h\r\n", "From: f@h\r\nSender:\r\nReply-To: bad\r\n", "From: f@h\r\nSender: x@y,\r\nSender: x@y\r\nReply-To: \t\r\n"} {
		e := Of([]byte(s))
		if len(e.From) != 1 || !slices.Equal(e.Sender, e.From) || !slices.Equal(e.ReplyTo, e.From) {
			t.Errorf("P15.1: Of(%q): %v", s, e)
		}
		e.From[0].Local = "x"
		if e.Sender[0].Local != "f" || e.ReplyTo[0].Local != "f" {
			t.Error("R4: lists of one envelope share memory")
		}
		e.Sender[0].Local = "y"
		if e.ReplyTo[0].Local != "f" {
			t.Error("R4: lists of one envelope share memory")
		}
	}
}

func TestEmptyAndWrongFields(t *testing.T) {
	if got := Line([]byte("Subject:\r\nDate: \xe9\r\nFrom: @\r\nTo:\r\nMessage-ID:\r\n\r\n")); got != "({1}\r\n\xe9 \"\" NIL NIL NIL NIL NIL NIL NIL \"\")" {
		t.Errorf("P15.1: Line: %q", got)
	}
}
