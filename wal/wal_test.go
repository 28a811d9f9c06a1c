package wal

import (
	"bytes"
	"strconv"
	"strings"
	"testing"

	"franking/api"
	"franking/dev"
	"franking/rec"
)

func device(t *testing.T, sectors int) *dev.Dev {
	t.Helper()
	d, err := dev.New(sectors)
	if err != api.OK {
		t.Fatal(err)
	}
	return d
}

func open(t *testing.T, d *dev.Dev) *Log {
	t.Helper()
	l, err := Open(d)
	if err != api.OK {
		t.Fatalf("P6.1: Open: %d", err)
	}
	return l
}

// show tells a log's base and records in one text.
func show(l *Log) string {
	s := "[" + short(l.Base()) + "]"
	for _, b := range l.All() {
		s += short(b) + ","
	}
	return s
}

func short(b []byte) string {
	if len(b) < 8 {
		return string(b)
	}
	return string(b[:1]) + strconv.Itoa(len(b))
}

func TestOpen(t *testing.T) {
	d := device(t, 7)
	if l, err := Open(d); l != nil || err != api.EARG {
		t.Errorf("P6.1: Open with 7 sectors: %d", err)
	}
	d.Crash(nil, -1)
	if l, err := Open(d); l != nil || err != api.EOFF {
		t.Errorf("P6.1: Open without power: %d", err)
	}
	l := open(t, device(t, 8))
	if show(l) != "[]" || l.Done() {
		t.Errorf("P6.1: a new log: %s", show(l))
	}
}

func TestAddAndKeep(t *testing.T) {
	d := device(t, 20)
	l := open(t, d)
	body := []byte("a")
	l.Add(body)
	body[0] = 'x'
	if l.Add(nil) != api.OK || l.Add([]byte("bc")) != api.OK || show(l) != "[]a,,bc," || show(open(t, d)) != "[]a,,bc," {
		t.Errorf("P6.1: Add: %s", show(l))
	}
	l.All()[0][0] = 'x'
	base := []byte("base")
	if l.Keep(base) != api.OK || show(l) != "[base]" {
		t.Errorf("P6.1: Keep: %s", show(l))
	}
	base[0] = 'x'
	l.Base()[0] = 'x'
	l.Add([]byte("d"))
	if show(l) != "[base]d," || show(open(t, d)) != "[base]d," {
		t.Errorf("P6.1: Add after Keep: %s", show(l))
	}
	if l.Keep(nil) != api.OK || show(open(t, d)) != "[]" {
		t.Error("P6.1: Keep of an empty base")
	}
	big := make([]byte, api.MaxValue+1)
	if l.Add(big) != api.EARG || l.Keep(big) != api.EARG || show(l) != "[]" || l.Done() {
		t.Error("P6.1: more than MaxValue bytes")
	}
}

func TestSpace(t *testing.T) {
	for _, sectors := range []int{8, 9, 10, 11, 33, 100} {
		for _, size := range []int{0, 1, 100, 448, 449, 600} {
			d := device(t, sectors)
			l := open(t, d)
			for used := 64; used+size+64 <= 150*sectors; used += size + 64 {
				if err := l.Add(make([]byte, size)); err != api.OK {
					t.Fatalf("P6.1: no space for %d bytes after %d on %d sectors: %d", size, used, sectors, err)
				}
			}
			for l.Add(make([]byte, size)) == api.OK {
			}
			was := show(l)
			if l.Add(make([]byte, size)) != api.EFULL || show(l) != was || show(open(t, d)) != was || l.Done() {
				t.Errorf("P6.1: EFULL changes something")
			}
			if err := l.Keep(make([]byte, 150*sectors-64)); err != api.OK {
				t.Errorf("P6.1: no space for a base on %d sectors: %d", sectors, err)
			}
			for l.Add(make([]byte, size)) == api.OK {
			}
			was = show(l)
			if l.Keep(make([]byte, 512*sectors)) != api.EFULL || show(l) != was || l.Done() || show(open(t, d)) != was {
				t.Errorf("P6.1: EFULL of Keep changes something on %d sectors", sectors)
			}
		}
	}
}

func TestFree(t *testing.T) {
	d := device(t, 12)
	l := open(t, d)
	for free := l.Free(); free > 0; free = l.Free() {
		if l.Add(make([]byte, (free+1)/2)) != api.OK {
			t.Fatalf("P6.1: Free promised %d", free)
		}
	}
	l = open(t, device(t, api.MaxSectors))
	if l.Free() != api.MaxValue || l.Add(make([]byte, l.Free())) != api.OK {
		t.Errorf("P6.1: Free of a large device: %d", l.Free())
	}
	l = open(t, device(t, 12))
	n := l.Free()
	if l.Add(make([]byte, n+1)) != api.EFULL || l.Add(make([]byte, n)) != api.OK || l.Free() != 0 {
		t.Errorf("P6.1: Free: %d", n)
	}
}

func TestDone(t *testing.T) {
	d := device(t, 8)
	l := open(t, d)
	l.Add([]byte("a"))
	d.Crash(nil, -1)
	if l.Add(make([]byte, api.MaxValue+1)) != api.EARG || l.Add(make([]byte, 5000)) != api.EFULL || l.Done() {
		t.Error("P6.1: EARG and EFULL come before EOFF")
	}
	if l.Add([]byte("b")) != api.EOFF || !l.Done() || show(l) != "[]a," {
		t.Error("P6.1: Add without power")
	}
	d.On()
	if l.Add(nil) != api.EOFF || l.Keep(nil) != api.EOFF || l.Add(make([]byte, api.MaxValue+1)) != api.EOFF || show(l) != "[]a," || show(open(t, d)) != "[]a," {
		t.Error("P6.1: a log that is done")
	}
	l = open(t, d)
	d.Fuse(1, nil, -1)
	if l.Keep([]byte("x")) != api.EOFF || !l.Done() || show(l) != "[]a," {
		t.Error("P6.1: Keep without power")
	}
}

func TestOldLogKeepsItsAnswers(t *testing.T) {
	d := device(t, 8)
	old := open(t, d)
	old.Keep([]byte("o"))
	old.Add([]byte("a"))
	l := open(t, d)
	l.Keep([]byte("n"))
	l.Add([]byte("b"))
	if show(old) != "[o]a," || show(l) != "[n]b," {
		t.Errorf("P6.1: %s and %s", show(old), show(l))
	}
}

// act is a call: Add, or Keep if the text begins with '!'.
func act(l *Log, s string) api.Errno {
	if s[0] == '!' {
		return l.Keep([]byte(s[1:]))
	}
	return l.Add([]byte(s))
}

// crashAt performs the calls until the fuse burns, and tells the states before and after the last one.
func crashAt(t *testing.T, d *dev.Dev, acts []string) (before, after string, burnt bool) {
	model, _ := Open(mustDevice(d.Sectors()))
	l := open(t, d)
	for _, s := range acts {
		before = show(model)
		act(model, s)
		after = show(model)
		if err := act(l, s); err == api.EOFF {
			return before, after, true
		} else if err != api.OK {
			t.Fatalf("P6.2: %q: %d", s, err)
		}
	}
	return "", "", false
}

func mustDevice(sectors int) *dev.Dev {
	d, _ := dev.New(sectors)
	return d
}

func TestEveryCrash(t *testing.T) {
	long := strings.Repeat("L", 700)
	acts := []string{"a", long, "b", "!" + strings.Repeat("K", 600), "c", long, "!k", strings.Repeat("d", 480), "e"}
	for calls := 1; ; calls++ {
		burnt := false
		for kept := range 1 << 4 {
			for torn := -1; torn < 4; torn++ {
				var keep []int
				for i := range 4 {
					if kept>>i&1 == 1 {
						keep = append(keep, i)
					}
				}
				d := device(t, 12)
				d.Fuse(calls, keep, torn)
				before, after, ok := crashAt(t, d, acts)
				if burnt = ok; !ok {
					break
				}
				d.On()
				got := show(open(t, d))
				if got != before && got != after {
					t.Fatalf("P6.2: fuse %d, keep %v, torn %d: %s, not %s or %s", calls, keep, torn, got, before, after)
				}
				if again := open(t, d); show(again) != got || again.Add([]byte("z")) != api.OK || show(open(t, d)) != got+"z," {
					t.Fatalf("P6.2: fuse %d, keep %v, torn %d: another state later", calls, keep, torn)
				}
			}
		}
		if !burnt {
			if calls < 20 {
				t.Errorf("P6.2: only %d crashes", calls)
			}
			return
		}
	}
}

// TestLostBytesAreNoRecords loses a record whose body looks like later records of the log.
func TestLostBytesAreNoRecords(t *testing.T) {
	inner, _ := rec.Put(nil, rec.Rec{Num: 3, Body: []byte("false")})
	trap := bytes.Repeat(append([]byte{0}, inner...), 40)
	for size := range 40 {
		d := device(t, 20)
		d.Fuse(3, []int{0, 1, 2}, -1)
		if open(t, d).Add(trap) != api.EOFF {
			t.Fatal("P6.2: the record is not lost")
		}
		d.On()
		l := open(t, d)
		if show(l) != "[]" || l.Add(make([]byte, size)) != api.OK {
			t.Fatalf("P6.2: the log after the loss: %s", show(l))
		}
		if n := len(open(t, d).All()); n != 1 {
			t.Fatalf("P6.2: %d records, not one", n)
		}
	}
}

func TestForeignDevice(t *testing.T) {
	for i := range 300 {
		d := device(t, 8)
		b := make([]byte, api.MaxSector)
		for at := range 8 {
			for j := range b {
				b[j] = byte(i * (j + at*7 + 1) >> 2)
			}
			if at == 0 && i%2 == 0 {
				copy(b, head(i&3, i*17))
			}
			d.Write(at, b)
		}
		l := open(t, d)
		l.Base()
		l.All()
		l.Free()
		l.Add([]byte("a"))
	}
}
