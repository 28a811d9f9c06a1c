package queue

import (
	"testing"

	"franking/api"
)

func made(t *testing.T, room int, l ...string) *Queue {
	t.Helper()
	q, err := New(room)
	if err != api.OK {
		t.Fatalf("P2.1: New(%d): %d", room, err)
	}
	for _, s := range l {
		if !q.Put([]byte(s)) {
			t.Fatalf("P2.1: Put(%q)", s)
		}
	}
	return q
}

func drain(q *Queue) string {
	s := ""
	for b, ok := q.Take(); ok; b, ok = q.Take() {
		s += string(b) + "|"
	}
	return s
}

func TestNew(t *testing.T) {
	for room, want := range map[int]api.Errno{-1: api.EARG, 0: api.EARG, 1: api.OK, api.MaxQueue: api.OK, api.MaxQueue + 1: api.EARG, 1 << 62: api.EARG} {
		if q, err := New(room); err != want || (q == nil) != (want != api.OK) {
			t.Errorf("P2.1: New(%d): %d", room, err)
		}
	}
}

func TestPutAndTake(t *testing.T) {
	q := made(t, 2, "a", "")
	if q.Put([]byte("c")) || q.Len() != 2 {
		t.Error("P2.1: Put in a full queue")
	}
	if s := drain(q); s != "a||" || q.Len() != 0 {
		t.Errorf("P2.1: Take: %q", s)
	}
	if b, ok := q.Take(); ok || b != nil {
		t.Error("P2.1: Take of an empty queue")
	}
	full := made(t, api.MaxQueue)
	for i := range api.MaxQueue {
		if !full.Put([]byte{byte(i)}) {
			t.Errorf("P2.1: Put number %d", i)
		}
	}
	if full.Put(nil) {
		t.Error("P2.1: Put beyond MaxQueue")
	}
}

func TestPutCopies(t *testing.T) {
	b := []byte("a")
	q := made(t, 1)
	q.Put(b)
	b[0] = 'x'
	if got, _ := q.Take(); string(got) != "a" {
		t.Errorf("P2.1: Put keeps its argument: %q", got)
	}
}

func TestClose(t *testing.T) {
	q := made(t, 3, "a", "b")
	if q.Closed() {
		t.Error("P2.1: Closed before Close")
	}
	q.Close()
	q.Close()
	if !q.Closed() || q.Put([]byte("c")) || q.Len() != 2 || drain(q) != "a|b|" || !q.Closed() {
		t.Error("P2.1: a closed queue")
	}
}

func TestNil(t *testing.T) {
	var q *Queue
	q.Close()
	if _, ok := q.Take(); ok || q.Put([]byte("a")) || q.Len() != 0 || q.Closed() || Move(q, q) || Move(q, made(t, 1)) {
		t.Error("P2.1: a nil queue")
	}
	from := made(t, 1, "a")
	if Move(from, q) || from.Len() != 1 {
		t.Error("P2.1: Move to a nil queue")
	}
}

func TestReady(t *testing.T) {
	a, b := made(t, 1), made(t, 2, "x", "y")
	c := made(t, 1, "z")
	for i, want := range []struct {
		at int
		s  string
	}{{2, "x"}, {2, "y"}, {3, "z"}} {
		if at, s, ok := Ready(a, nil, b, c); at != want.at || string(s) != want.s || !ok {
			t.Errorf("P2.1: Ready number %d: %d, %q, %v", i, at, s, ok)
		}
	}
	if at, s, ok := Ready(a, nil, b, c); at != 0 || s != nil || ok {
		t.Error("P2.1: Ready of empty queues")
	}
	if _, _, ok := Ready(); ok {
		t.Error("P2.1: Ready of no queues")
	}
	b.Put([]byte("again"))
	b.Close()
	if at, s, ok := Ready(a, b); at != 1 || string(s) != "again" || !ok {
		t.Error("P2.1: Ready of a closed queue")
	}
}

func TestMove(t *testing.T) {
	from, to := made(t, 3, "a", "b", "c"), made(t, 2, "x")
	if !Move(from, to) || Move(from, to) || from.Len() != 2 {
		t.Error("P2.1: Move to a full queue")
	}
	if s := drain(to); s != "x|a|" {
		t.Errorf("P2.1: Move: %q", s)
	}
	if Move(from, from) || drain(from) != "b|c|" || Move(from, to) {
		t.Error("P2.1: Move within a queue, or from an empty one")
	}
	from = made(t, 1, "a")
	from.Close()
	if !Move(from, to) {
		t.Error("P2.1: Move from a closed queue")
	}
	from = made(t, 1, "b")
	to.Close()
	if Move(from, to) || from.Len() != 1 {
		t.Error("P2.1: Move to a closed queue")
	}
}
