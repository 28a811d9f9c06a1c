package snap

import (
	"math"
	"slices"
	"strings"
	"testing"

	"franking/view"
)

func label(uids ...int64) view.Label {
	l := view.Label{Name: "a", Validity: 3, Next: 100}
	for _, uid := range uids {
		l.Rows = append(l.Rows, view.Row{UID: uid, ID: uid + 7})
	}
	return l
}

func check(t *testing.T, s *Snap, want ...int64) {
	t.Helper()
	if got := s.UIDs(); !slices.Equal(got, want) || s.Len() != len(want) {
		t.Errorf("P25.1: the list is %v, not %v", got, want)
	}
}

func sync(t *testing.T, s *Snap, l view.Label, expunge bool, want string) {
	t.Helper()
	before := s.Len()
	lines := s.Sync(l, expunge)
	if got := strings.Join(lines, ","); got != want {
		t.Errorf("P25.1: Sync: %s, not %s", got, want)
	}
	if n, ok := Replay(before, lines); n != s.Len() || !ok {
		t.Errorf("P25.2: Replay: %d, not %d", n, s.Len())
	}
}

func TestSync(t *testing.T) {
	s := Of(label(1, 2, 3))
	check(t, s, 1, 2, 3)
	sync(t, s, label(1, 3), true, "2 EXPUNGE")
	check(t, s, 1, 3)
	sync(t, s, label(1, 3), true, "")
	sync(t, s, label(3, 4, 9), false, "4 EXISTS")
	check(t, s, 1, 3, 4, 9)
	if !slices.Equal(s.Gone(), []int64{1}) {
		t.Errorf("P25.1: Gone: %v", s.Gone())
	}
	sync(t, s, label(3, 9, 10), true, "3 EXPUNGE,1 EXPUNGE,3 EXISTS")
	check(t, s, 3, 9, 10)
	if len(s.Gone()) != 0 {
		t.Errorf("P25.1: Gone: %v", s.Gone())
	}
	sync(t, s, label(), false, "")
	if !slices.Equal(s.Gone(), []int64{3, 9, 10}) {
		t.Errorf("P25.1: Gone: %v", s.Gone())
	}
	sync(t, s, label(), true, "3 EXPUNGE,2 EXPUNGE,1 EXPUNGE")
	check(t, s)
	sync(t, s, label(4, 10), true, "")
	sync(t, s, label(11), false, "1 EXISTS")
	check(t, s, 11)
}

func TestEmptyLabel(t *testing.T) {
	s := Of(label())
	check(t, s)
	if len(s.Gone()) != 0 {
		t.Error("P25.1: Gone of a new list")
	}
	sync(t, s, label(5), true, "1 EXISTS")
	check(t, s, 5)
	s = Of(label(5))
	sync(t, s, label(5), true, "")
	sync(t, s, label(5, 6), true, "2 EXISTS")
}

func TestNumbers(t *testing.T) {
	s := Of(label(2, 5, 9))
	for n, want := range map[int64]int64{1: 2, 2: 5, 3: 9, 0: 0, -1: 0, 4: 0, math.MaxInt64: 0, math.MinInt64: 0} {
		if uid, ok := s.UID(n); uid != want || ok != (want != 0) {
			t.Errorf("P25.1: UID(%d): %d", n, uid)
		}
	}
	for uid, want := range map[int64]int64{2: 1, 5: 2, 9: 3, 0: 0, 1: 0, 3: 0, 10: 0, -2: 0} {
		if n, ok := s.N(uid); n != want || ok != (want != 0) {
			t.Errorf("P25.1: N(%d): %d", uid, n)
		}
	}
}

func TestListsAreCopies(t *testing.T) {
	l := label(1, 2)
	s := Of(l)
	l.Rows[0].UID = 9
	s.UIDs()[0] = 9
	check(t, s, 1, 2)
	s.Sync(label(), false)
	s.Gone()[0] = 9
	if !slices.Equal(s.Gone(), []int64{1, 2}) {
		t.Error("R4: Gone shares memory")
	}
}

func TestReplay(t *testing.T) {
	for _, c := range []struct {
		start int
		lines string
		want  int
		ok    bool
	}{
		{0, "", 0, true}, {3, "3 EXPUNGE,1 EXPUNGE", 1, true}, {3, "3 EXPUNGE,3 EXPUNGE", 0, false}, {0, "1 EXPUNGE", 0, false}, {2, "0 EXPUNGE", 0, false}, {2, "2 EXISTS", 2, true}, {2, "1 EXISTS", 0, false}, {2, "007 EXISTS", 7, true},
		{2, "x,9,EXISTS, EXISTS,1 exists,-1 EXPUNGE,12345678901 EXISTS,1 EXPUNGE ,* 9 EXISTS,+1 EXISTS", 2, true}, {-1, "", 0, false}, {-1, "5 EXISTS", 0, false}, {1, "9999999999 EXISTS", 9999999999, true}, {math.MaxInt, "", math.MaxInt, true}, {math.MinInt, "", 0, false},
		{5, "5 EXPUNGE,4 EXISTS,9 EXISTS,1 EXPUNGE", 8, true}, {1, "0000000001 EXPUNGE", 0, true},
	} {
		if n, ok := Replay(c.start, strings.Split(c.lines, ",")); n != c.want || ok != c.ok {
			t.Errorf("P25.1: Replay(%d, %s): %d, %v", c.start, c.lines, n, ok)
		}
	}
}

func TestManySyncs(t *testing.T) {
	x := uint32(3)
	var now []int64
	next := int64(1)
	s := Of(label())
	length := 0
	for range 2000 {
		x = x*1664525 + 1013904223
		now = slices.DeleteFunc(now, func(uid int64) bool { return (uint32(uid)*2654435761^x)>>29 == 0 })
		for range x >> 20 & 3 {
			now = append(now, next)
			next += 1 + int64(x>>10&1)
		}
		expunge := x>>8&1 == 1
		lines := s.Sync(label(now...), expunge)
		n, ok := Replay(length, lines)
		if length = n; !ok || n != s.Len() {
			t.Fatalf("P25.2: Replay: %d, not %d", n, s.Len())
		}
		if expunge && !slices.Equal(s.UIDs(), now) || !slices.IsSorted(s.UIDs()) || s.Len()-len(s.Gone()) != len(now) {
			t.Fatalf("P25.1: the list %v after Sync of %v", s.UIDs(), now)
		}
	}
}
