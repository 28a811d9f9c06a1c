package mail

import (
	"math"
	"slices"
	"testing"

	"franking/api"
	"franking/flag"
)

func add(t *testing.T, x *Table, body string, flags ...string) int64 {
	t.Helper()
	id, err := x.Add([]byte(body), 7, flag.Set{L: flags})
	if err != api.OK {
		t.Fatalf("P20.1: Add: %d", err)
	}
	return id
}

func TestAddAndGet(t *testing.T) {
	x := New()
	if x.Next() != 1 || len(x.All()) != 0 {
		t.Error("P20.1: a new table")
	}
	body, flags := []byte("hi"), []string{"b", `\seen`, "bad flag", "B"}
	id, err := x.Add(body, 9, flag.Set{L: flags})
	body[0], flags[0] = 'x', "x"
	m, ok := x.Get(id)
	if id != 1 || err != api.OK || !ok || m.ID != 1 || m.Unix != 9 || string(m.Body) != "hi" || flag.Show(m.Flags) != `(\Seen b)` || x.Next() != 2 {
		t.Errorf("P20.1: Get: %v", m)
	}
	m.Body[0], m.Flags.L[0] = 'x', "x"
	if m, _ := x.Get(1); string(m.Body) != "hi" || m.Flags.L[0] != `\Seen` {
		t.Error("R4: Get shares memory with the table")
	}
	for _, id := range []int64{0, -1, 2, math.MaxInt64} {
		if m, ok := x.Get(id); ok || m.ID != 0 || m.Unix != 0 || m.Body != nil || m.Flags.L != nil {
			t.Errorf("P20.1: Get(%d): %v", id, m)
		}
	}
}

func TestAddErrors(t *testing.T) {
	x := New()
	big := make([]byte, api.MaxMessage+1)
	for i, c := range []struct {
		body []byte
		unix int64
		want api.Errno
	}{{big, 0, api.EARG}, {nil, -1, api.EARG}, {nil, 1<<40 + 1, api.EARG}, {nil, math.MinInt64, api.EARG}, {big[1:], 1 << 40, api.OK}, {nil, 0, api.OK}} {
		if id, err := x.Add(c.body, c.unix, flag.Set{}); err != c.want || (id == 0) != (err != api.OK) {
			t.Errorf("P20.1: Add number %d: %d, %d", i, id, err)
		}
	}
	for len(x.All()) < api.MaxMails {
		add(t, x, "")
	}
	if id, err := x.Add(nil, 0, flag.Set{}); id != 0 || err != api.EFULL || x.Next() != api.MaxMails+1 {
		t.Errorf("P20.1: Add to a full table: %d, %d", id, err)
	}
	if _, err := x.Add(big, 0, flag.Set{}); err != api.EARG {
		t.Error("P20.1: EARG comes before EFULL")
	}
	x.Drop(3)
	if add(t, x, "") != api.MaxMails+1 {
		t.Error("P20.1: an ID is never used again")
	}
}

func TestFlags(t *testing.T) {
	x := New()
	add(t, x, "a", "x")
	if x.Flags(1, flag.Set{L: []string{"z", `\DRAFT`, "a]"}}) != api.OK || x.Flags(2, flag.Set{}) != api.ENONE {
		t.Error("P20.1: Flags")
	}
	if m, _ := x.Get(1); flag.Show(m.Flags) != `(\Draft z)` || string(m.Body) != "a" || m.Unix != 7 {
		t.Errorf("P20.1: Flags: %v", m)
	}
	if x.Flags(1, flag.Set{}) != api.OK {
		t.Error("P20.1: Flags")
	}
	if m, _ := x.Get(1); len(m.Flags.L) != 0 {
		t.Errorf("P20.1: no Flags: %v", m)
	}
}

func TestDropAndAll(t *testing.T) {
	x := New()
	for range 12 {
		add(t, x, "")
	}
	if x.Drop(5) != api.OK || x.Drop(5) != api.ENONE || x.Drop(0) != api.ENONE || x.Drop(12) != api.OK || x.Flags(5, flag.Set{}) != api.ENONE {
		t.Error("P20.1: Drop")
	}
	if !slices.Equal(x.All(), []int64{1, 2, 3, 4, 6, 7, 8, 9, 10, 11}) || x.Next() != 13 || add(t, x, "") != 13 {
		t.Errorf("P20.1: All: %v", x.All())
	}
}

func TestThread(t *testing.T) {
	x := New()
	add(t, x, "Message-ID: <a>\r\n\r\n")
	add(t, x, "In-Reply-To: <a>\r\n\r\n")
	add(t, x, "Message-ID: <b>\r\n\r\n")
	x.Drop(1)
	add(t, x, "References: <a>\r\n\r\n")
	for id, want := range map[int64]int64{1: 0, 2: 1, 3: 3, 4: 1, 5: 0} {
		if n, ok := x.Thread(id); n != want || ok != (want != 0) {
			t.Errorf("P20.1: Thread(%d): %d", id, n)
		}
	}
}
