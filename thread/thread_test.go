package thread

import (
	"math"
	"slices"
	"strconv"
	"testing"
)

func refs(s string) []byte { return []byte("References: " + s + "\r\n\r\n") }

func TestReferencesConnect(t *testing.T) {
	for i, c := range [][2]string{
		{"Message-ID: <a>", "In-Reply-To: <a>"}, {"message-id: x <a>", "References: <x> <a> <y>"}, {"References: <a>", "References: <a>"}, {"In-Reply-To: <b> <a>", "Message-ID: <a>"},
		{"Message-ID: <a>", "Message-ID: <a> <b>"}, {"Message-ID: <a\r\nMessage-ID: <a>\r\nIn-Reply-To: <c>", "References: <c>"}, {"Message-ID: <>", "Message-ID: <>"},
	} {
		x := New()
		if x.Add(1, []byte(c[0]+"\r\n\r\n")) != 1 || x.Add(2, []byte(c[1]+"\r\n\r\n")) != 1 || x.Len() != 1 {
			t.Errorf("P18.1: pair number %d is not connected", i)
		}
	}
	for i, c := range [][2]string{
		{"Message-ID: <a>", "In-Reply-To: <A>"}, {"Message-ID: <b> <a>", "In-Reply-To: <a>"}, {"Message-ID: <a>", "\r\nIn-Reply-To: <a>"}, {"Message-ID: <a>", "In-Reply-To: <x>\r\nIn-Reply-To: <a>"},
		{"Message-ID: a", "In-Reply-To: a"}, {"Subject: <a>", "References: <a>"}, {"", ""}, {"References: <x>\r\nReferences: <a>", "References: <a>"},
	} {
		x := New()
		if x.Add(1, []byte(c[0]+"\r\n\r\n")) != 1 || x.Add(2, []byte(c[1]+"\r\n\r\n")) != 2 || x.Len() != 2 {
			t.Errorf("P18.1: pair number %d is connected", i)
		}
	}
}

func TestThreadsBecomeOne(t *testing.T) {
	x := New()
	x.Add(5, refs("<a>"))
	x.Add(9, refs("<b>"))
	x.Add(7, refs("<c>"))
	if x.Len() != 3 || x.Add(8, refs("<b> <c>")) != 7 || x.Len() != 2 || !slices.Equal(x.All(7), []int64{7, 8, 9}) || len(x.All(8)) != 0 || len(x.All(9)) != 0 {
		t.Errorf("P18.1: two threads: %v", x.All(7))
	}
	if x.Add(6, refs("<a> <b>")) != 5 || x.Len() != 1 || !slices.Equal(x.All(5), []int64{5, 6, 7, 8, 9}) || len(x.All(7)) != 0 {
		t.Errorf("P18.1: one thread: %v", x.All(5))
	}
	if x.Add(-3, refs("<c>")) != -3 || len(x.All(-3)) != 6 || len(x.All(5)) != 0 {
		t.Error("P18.1: the least number of a thread")
	}
	if n, ok := x.Of(9); n != -3 || !ok {
		t.Errorf("P18.1: Of: %d", n)
	}
}

func TestAddTwice(t *testing.T) {
	x := New()
	x.Add(2, refs("<a>"))
	x.Add(3, refs("<b>"))
	if x.Add(3, refs("<a>")) != 3 || x.Len() != 2 || x.Add(4, refs("<b>")) != 3 {
		t.Error("P18.1: a message that was added before")
	}
}

func TestNothing(t *testing.T) {
	x := New()
	if n, ok := x.Of(1); n != 0 || ok || x.Len() != 0 || len(x.All(1)) != 0 || len(x.All(0)) != 0 {
		t.Error("P18.1: no messages")
	}
	x.Add(math.MaxInt64, nil)
	x.Add(math.MinInt64, nil)
	if _, ok := x.Of(0); ok || x.Len() != 2 || !slices.Equal(x.All(math.MinInt64), []int64{math.MinInt64}) {
		t.Error("P18.1: the ends of the numbers")
	}
}

func TestLongChain(t *testing.T) {
	x := New()
	const n = 20000
	for i := int64(n); i > 0; i-- {
		if x.Add(i, refs("<"+strconv.FormatInt(i, 10)+"> <"+strconv.FormatInt(i-1, 10)+">")) != i {
			t.Fatalf("P18.1: the chain at %d", i)
		}
	}
	if x.Len() != 1 || len(x.All(1)) != n {
		t.Error("P18.1: a long chain")
	}
}
