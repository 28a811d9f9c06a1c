package store

import (
	"bytes"
	"strconv"
	"strings"
	"testing"

	"franking/api"
	"franking/dev"
	"franking/flag"
	"franking/view"
)

func device(t *testing.T, sectors int) *dev.Dev {
	t.Helper()
	d, err := dev.New(sectors)
	if err != api.OK {
		t.Fatal(err)
	}
	return d
}

func open(t *testing.T, d *dev.Dev) *Store {
	t.Helper()
	s, err := Open(d)
	if err != api.OK {
		t.Fatalf("P27.1: Open: %d", err)
	}
	return s
}

func mailTo(name, body string) view.Op {
	return view.Op{Kind: 1, Name: name, Body: []byte(body)}
}

// script is operations of all Kinds; some have errors.
func script() []view.Op {
	ids := func(l ...int64) []int64 { return l }
	return []view.Op{
		{Kind: 2, Name: "a"}, mailTo("a", "Message-ID: <a>\r\n\r\none"), {Kind: 1, Name: "INBOX", Body: []byte("In-Reply-To: <a>\r\nX: y\r\n\r\ntwo"), Unix: 9, Flags: flag.Set{L: []string{"z", `\seen`}}},
		{Kind: 3, Name: "none"}, {Kind: 5, Name: "INBOX", IDs: ids(1)}, {Kind: 8, IDs: ids(1, 2), Flags: flag.Set{L: []string{"x"}}}, {Kind: 10, Name: "a", Num: 7}, {Kind: 9, Name: "a", Num: 1},
		{Kind: 4, Name: "a", To: "b"}, mailTo("b", ""), {Kind: 7, IDs: ids(1)}, {Kind: 11}, {Kind: 8, IDs: ids(2), Flags: flag.Set{L: []string{"y"}}}, {Kind: 6, Name: "INBOX", IDs: ids(2)},
		mailTo("b", "References: <a> <b>\r\n\r\nfour"), {Kind: 2, Name: "c"}, {Kind: 3, Name: "c"}, {Kind: 9, Name: "INBOX", Num: 1}, {Kind: 7, IDs: ids(4)}, mailTo("INBOX", "Message-ID: <b>\r\n\r\nfive"),
	}
}

func TestOpen(t *testing.T) {
	d := device(t, 7)
	if s, err := Open(d); s != nil || err != api.EARG {
		t.Errorf("P27.1: Open of 7 sectors: %d", err)
	}
	d.Crash(nil, -1)
	if s, err := Open(d); s != nil || err != api.EOFF {
		t.Errorf("P27.1: Open without power: %d", err)
	}
	if s := open(t, device(t, 8)); !view.Same(s.World(), view.New()) || s.Done() {
		t.Error("P27.1: a new store")
	}
}

func TestSameAsPlain(t *testing.T) {
	d := device(t, 200)
	s, p := open(t, d), NewPlain()
	if !view.Same(p.World(), view.New()) {
		t.Error("P27.1: a new Plain")
	}
	for i, o := range script() {
		n, err := s.Do(o)
		if m, want := p.Do(o); n != m || err != want {
			t.Fatalf("P27.1: Do number %d: %d, %d; not %d, %d", i, n, err, m, want)
		}
		if i%5 == 4 && s.Keep() != api.OK {
			t.Fatal("P27.1: Keep")
		}
		if !view.Same(s.World(), p.World()) || !view.Same(open(t, d).World(), p.World()) {
			t.Fatalf("P27.1: the World after number %d", i)
		}
		if i%3 == 2 {
			s = open(t, d)
		}
	}
}

func TestErrorsInOrder(t *testing.T) {
	d := device(t, 8)
	s := open(t, d)
	w := s.World()
	long := strings.Repeat("n", 1001)
	for s.Keep() == api.OK {
		if _, err := s.Do(mailTo("All", strings.Repeat("x", 200))); err == api.EFULL {
			break
		}
	}
	was := replay(s.history())
	for i, c := range []struct {
		o    view.Op
		want api.Errno
	}{
		{view.Op{Kind: 3, Name: long}, api.EARG}, {view.Op{Kind: 12}, api.EARG}, {view.Op{Kind: 7, IDs: make([]int64, 1001)}, api.EARG}, {view.Op{Kind: 3, Name: "none"}, api.ENONE}, {view.Op{Kind: 2, Name: strings.Repeat("n", 101)}, api.EARG},
		{mailTo("All", strings.Repeat("x", 3000)), api.EFULL}, {view.Op{Kind: 8, IDs: make([]int64, 900), Flags: flag.Set{L: []string{"x"}}}, api.EFULL},
	} {
		if n, err := s.Do(c.o); n != 0 || err != c.want || !view.Same(s.World(), was) || s.World() != w || s.Done() {
			t.Errorf("P27.1: Do number %d: %d, %d", i, n, err)
		}
	}
	d.Fuse(1, nil, -1)
	if n, err := s.Do(view.Op{Kind: 7}); n != 0 || err != api.EOFF || !s.Done() || !view.Same(w, was) {
		t.Errorf("P27.1: Do without power: %d", err)
	}
	d.On()
	if _, err := s.Do(view.Op{Kind: 12}); err != api.EOFF || s.Keep() != api.EOFF || !view.Same(w, was) {
		t.Error("P27.1: a store that is done")
	}
	if s = open(t, d); s.Done() || !view.Same(s.World(), was) {
		t.Error("P27.1: the store opened again")
	}
}

func TestSpace(t *testing.T) {
	for _, sectors := range []int{8, 9, 64, 300} {
		for _, kept := range []int{0, 1, 3, 7} {
			s := open(t, device(t, sectors))
			used := 0
			for i := 0; ; i++ {
				o := mailTo("All", strings.Repeat("x", i*37%400))
				if i%3 == 0 {
					o = view.Op{Kind: 10, Name: "INBOX", Num: int64(i + 1)}
				}
				if used += len(view.Encode(o)) + 64; used > 60*sectors {
					break
				}
				if _, err := s.Do(o); err != api.OK {
					t.Fatalf("P27.1: no space for %d bytes on %d sectors: %d", used, sectors, err)
				}
				if kept > 0 && i%kept == 0 && used <= 90000 && s.Keep() != api.OK {
					t.Fatalf("P27.1: no space for Keep after %d bytes on %d sectors", used, sectors)
				}
			}
		}
	}
}

func TestKeepOfTooMuch(t *testing.T) {
	d := device(t, api.MaxSectors)
	s := open(t, d)
	for range 4 {
		s.Do(mailTo("All", strings.Repeat("x", 60000)))
	}
	was := replay(s.history())
	if err := s.Keep(); err != api.EFULL || s.Done() || !view.Same(s.World(), was) || !view.Same(open(t, d).World(), was) {
		t.Errorf("P27.1: Keep of more than MaxValue bytes: %d", err)
	}
	if _, err := s.Do(mailTo("All", "")); err != api.OK {
		t.Errorf("P27.1: Do after that: %d", err)
	}
}

func TestKeepMakesRoom(t *testing.T) {
	s := open(t, device(t, 40))
	body := "Message-ID: <a>\r\n\r\n" + strings.Repeat("x", 1000)
	for i := range int64(60) {
		if _, err := s.Do(mailTo("All", body)); err != api.OK {
			t.Fatalf("P27.1: no room for number %d: %d", i, err)
		}
		for j := range 3 {
			s.Do(view.Op{Kind: 8, IDs: []int64{i, i + 1}, Flags: flag.Set{L: []string{"k" + strconv.Itoa(j)}}})
		}
		s.Do(view.Op{Kind: 7, IDs: []int64{i}})
		if err := s.Keep(); err != api.OK {
			t.Fatalf("P27.1: Keep number %d: %d", i, err)
		}
	}
	if n, ok := s.World().Thread(60); n != 1 || !ok {
		t.Errorf("P27.1: the thread after Keep: %d", n)
	}
}

func TestCompact(t *testing.T) {
	ops := script()
	var good []view.Op
	w := view.New()
	for _, o := range ops {
		if _, err := w.Do(o); err == api.OK {
			good = append(good, o)
		}
	}
	was := texts(good)
	fewer := compact(good)
	if texts(good) != was {
		t.Error("P27.1: compact changes its argument")
	}
	size := func(ops []view.Op) (n int) {
		for _, o := range ops {
			n += len(view.Encode(o))
		}
		return n
	}
	if !view.Same(replay(fewer), w) || size(fewer) >= size(good) {
		t.Errorf("P27.1: compact: %d operations of %d bytes", len(fewer), size(fewer))
	}
}

// texts writes operations as view.Encode does.
func texts(ops []view.Op) string {
	s := ""
	for _, o := range ops {
		s += string(view.Encode(o))
	}
	return s
}

func TestCompactLeavesOut(t *testing.T) {
	flags := func(id int64, s string) view.Op {
		return view.Op{Kind: 8, IDs: []int64{id}, Flags: flag.Set{L: []string{s}}}
	}
	full := view.Op{Kind: 1, Name: "All", Body: []byte("Message-ID: <a>\r\nSubject: s\r\n\r\nbody"), Unix: 5, Flags: flag.Set{L: []string{"x"}}}
	bare := full
	bare.Flags = flag.Set{}
	gone := view.Op{Kind: 7, IDs: []int64{1}}
	for i, c := range []struct{ ops, want []view.Op }{
		{[]view.Op{full, flags(1, "y"), flags(1, "z")}, []view.Op{bare, flags(1, "z")}},
		{[]view.Op{full, flags(1, "y"), full, gone, flags(2, "z")}, []view.Op{mailTo("All", "Message-ID: <a>\r\n\r\n"), bare, gone, flags(2, "z")}},
		{[]view.Op{flags(1, "y"), full, flags(2, "y")}, []view.Op{flags(1, "y"), full, flags(2, "y")}},
	} {
		if got := compact(c.ops); texts(got) != texts(c.want) {
			t.Errorf("P27.1: compact number %d: %v", i, got)
		}
	}
}

func TestOldWorldRemains(t *testing.T) {
	d := device(t, 64)
	old := open(t, d)
	old.Do(mailTo("INBOX", "a"))
	was := replay(old.history())
	s := open(t, d)
	s.Do(mailTo("INBOX", "b"))
	s.Keep()
	if !view.Same(old.World(), was) || view.Same(s.World(), was) {
		t.Error("P27.1: the World of an earlier store")
	}
}

// states tells the World before all operations and after each of them.
func states(ops []view.Op) []*view.World {
	l := []*view.World{view.New()}
	for i := range ops {
		l = append(l, replay(ops[:i+1]))
	}
	return l
}

func TestEveryCrash(t *testing.T) {
	ops := []view.Op{{Kind: 2, Name: "a"}, mailTo("a", strings.Repeat("m", 600)), mailTo("INBOX", "n"), {Kind: 7, IDs: []int64{1}}, {Kind: 8, IDs: []int64{2}, Flags: flag.Set{L: []string{"x"}}}, mailTo("a", "o")}
	worlds := states(ops)
	for calls := 1; ; calls++ {
		burnt := false
		for mode := range 20 {
			keep := [][]int{nil, {0}, {1}, {0, 1, 2, 3, 4}, {1, 2}}[mode%5]
			d := device(t, 40)
			s := open(t, d)
			d.Fuse(calls, keep, mode/5-1)
			at := 0
			for i, o := range ops {
				if _, err := s.Do(o); err != api.OK {
					break
				}
				at = i + 1
				if i%2 == 1 && s.Keep() != api.OK {
					break
				}
			}
			if burnt = d.Off(); !burnt {
				break
			}
			if !s.Done() || !view.Same(s.World(), worlds[at]) {
				t.Fatalf("P27.1: the World of a store that lost its power at call %d", calls)
			}
			d.On()
			s = open(t, d)
			if same := view.Same(s.World(), worlds[at]); !same && (at == len(ops) || !view.Same(s.World(), worlds[at+1])) {
				t.Fatalf("P27.2: the World after a crash at call %d, mode %d", calls, mode)
			} else if !same {
				at++
			}
			if again := open(t, d); !view.Same(again.World(), worlds[at]) {
				t.Fatalf("P27.2: the World opened again after a crash at call %d", calls)
			}
			for _, o := range ops[at:] {
				s.Do(o)
			}
			if !view.Same(open(t, d).World(), worlds[len(ops)]) {
				t.Fatalf("P27.2: going on after a crash at call %d", calls)
			}
		}
		if !burnt {
			if calls < 25 {
				t.Errorf("P27.2: only %d crashes", calls)
			}
			return
		}
	}
}

func TestForeignDevice(t *testing.T) {
	for i := range 50 {
		d := device(t, 16)
		s := open(t, d)
		s.Do(mailTo("All", "x"))
		if i%2 == 0 {
			s.Keep()
		}
		d.Flush()
		b, _ := d.Read(i % 16)
		b[i*7%512] ^= 0x55
		d.Write(i%16, b)
		d.Write((i+3)%16, bytes.Repeat([]byte{byte(i)}, api.MaxSector))
		s = open(t, d)
		s.Do(mailTo("All", "y"))
		s.Keep()
		s.World().Names()
	}
}
