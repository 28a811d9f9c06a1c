package dev

import (
	"bytes"
	"testing"

	"franking/api"
)

func full(c byte) []byte { return bytes.Repeat([]byte{c}, api.MaxSector) }

func made(t *testing.T, sectors int) *Dev {
	t.Helper()
	d, err := New(sectors)
	if err != api.OK {
		t.Fatalf("P4.1: New(%d): %d", sectors, err)
	}
	return d
}

func put(t *testing.T, d *Dev, at int, c byte) {
	t.Helper()
	if err := d.Write(at, full(c)); err != api.OK {
		t.Fatalf("P4.1: Write(%d): %d", at, err)
	}
}

// look tells the first bytes of both halves of the sectors.
func look(t *testing.T, d *Dev) string {
	t.Helper()
	s := ""
	for at := range d.Sectors() {
		b, err := d.Read(at)
		if err != api.OK || len(b) != api.MaxSector {
			t.Fatalf("P4.1: Read(%d): %d bytes, %d", at, len(b), err)
		}
		for _, half := range [][]byte{b[:256], b[256:]} {
			if !bytes.Equal(half, bytes.Repeat(half[:1], 256)) {
				t.Fatalf("P4.1: sector %d is mixed", at)
			}
			if half[0] == 0 {
				s += "-"
			} else {
				s += string(half[0])
			}
		}
	}
	return s
}

func TestNew(t *testing.T) {
	for n, want := range map[int]api.Errno{-1: api.EARG, 0: api.EARG, 1: api.OK, api.MaxSectors: api.OK, api.MaxSectors + 1: api.EARG} {
		d, err := New(n)
		if err != want || (d == nil) != (err != api.OK) || d != nil && d.Sectors() != n {
			t.Errorf("P4.1: New(%d): %d", n, err)
		}
	}
	d := made(t, 2)
	if d.Off() || d.Unsafe() != 0 || look(t, d) != "----" {
		t.Error("P4.1: a new device")
	}
}

func TestArguments(t *testing.T) {
	d := made(t, 2)
	for _, at := range []int{-1, 2, 1 << 62} {
		if d.Write(at, full(1)) != api.EARG {
			t.Errorf("P4.1: Write(%d)", at)
		}
		if b, err := d.Read(at); b != nil || err != api.EARG {
			t.Errorf("P4.1: Read(%d)", at)
		}
	}
	if d.Write(0, full(1)[1:]) != api.EARG || d.Write(0, append(full(1), 1)) != api.EARG || d.Write(0, nil) != api.EARG || d.Unsafe() != 0 {
		t.Error("P4.1: Write of another length")
	}
	d.Crash(nil, -1)
	if b, err := d.Read(-1); b != nil || err != api.EOFF || d.Write(-1, nil) != api.EOFF || d.Flush() != api.EOFF || !d.Off() || d.Unsafe() != 0 || d.Sectors() != 2 {
		t.Error("P4.1: without power")
	}
}

func TestWriteReadFlush(t *testing.T) {
	d := made(t, 3)
	b := full('a')
	d.Write(1, b)
	b[0] = 'x'
	if look(t, d) != "--aa--" || d.Unsafe() != 1 {
		t.Error("P4.1: Write")
	}
	got, _ := d.Read(1)
	got[0] = 'x'
	if look(t, d) != "--aa--" {
		t.Error("R4: Read shares the cache")
	}
	put(t, d, 1, 'b')
	put(t, d, 2, 'c')
	if look(t, d) != "--bbcc" || d.Unsafe() != 3 || d.Flush() != api.OK || d.Unsafe() != 0 {
		t.Error("P4.1: the last write counts")
	}
	got, _ = d.Read(1)
	got[0] = 'x'
	put(t, d, 2, 'd')
	d.Crash(nil, -1)
	d.Crash([]int{0}, 0)
	d.On()
	d.On()
	if look(t, d) != "--bbcc" || d.Off() || d.Unsafe() != 0 {
		t.Errorf("P4.1: after the crash: %s", look(t, d))
	}
}

func TestCrashKeepsAndTears(t *testing.T) {
	for i, c := range []struct {
		keep []int
		torn int
		want string
	}{
		{nil, -1, "oooo"}, {[]int{0}, -1, "aaoo"}, {[]int{2, 0, 0, -5, 99}, -1, "ccoo"}, {[]int{0}, 2, "caoo"},
		{nil, 0, "aooo"}, {[]int{0}, 0, "aaoo"}, {[]int{1}, 3, "oodb"}, {[]int{3}, 1, "oodd"}, {[]int{4}, 4, "oooo"}, {[]int{0, 1, 2, 3}, -1, "ccdd"},
	} {
		d := made(t, 2)
		put(t, d, 0, 'o')
		put(t, d, 1, 'o')
		d.Flush()
		put(t, d, 0, 'a')
		put(t, d, 1, 'b')
		put(t, d, 0, 'c')
		put(t, d, 1, 'd')
		d.Crash(c.keep, c.torn)
		d.On()
		if got := look(t, d); got != c.want {
			t.Errorf("P4.1: crash number %d: %s, not %s", i, got, c.want)
		}
	}
}

func TestFuseReplacesCall(t *testing.T) {
	d := made(t, 2)
	keep := []int{0}
	d.Fuse(3, keep, 1)
	keep[0] = 1
	put(t, d, 0, 'a')
	if d.Write(9, full(1)) != api.EARG || d.Write(0, nil) != api.EARG {
		t.Error("P4.1: calls that fail do not count")
	}
	put(t, d, 1, 'b')
	if d.Off() || d.Write(1, full('c')) != api.EOFF || !d.Off() {
		t.Error("P4.1: Fuse on a Write")
	}
	d.On()
	if look(t, d) != "aab-" {
		t.Errorf("P4.1: after the fuse: %s", look(t, d))
	}
	put(t, d, 1, 'd')
	d.Fuse(1, nil, -1)
	if d.Flush() != api.EOFF || !d.Off() {
		t.Error("P4.1: Fuse on a Flush")
	}
	d.On()
	if look(t, d) != "aab-" || d.Flush() != api.OK {
		t.Error("P4.1: a Flush that crashes makes nothing durable")
	}
}

func TestFuseIsReplacedAndCancelled(t *testing.T) {
	d := made(t, 1)
	d.Fuse(1, nil, -1)
	d.Fuse(2, nil, -1)
	put(t, d, 0, 'a')
	d.Fuse(0, nil, -1)
	put(t, d, 0, 'a')
	d.Fuse(1, nil, -1)
	d.Fuse(-7, nil, -1)
	put(t, d, 0, 'a')
	d.Fuse(1, nil, -1)
	d.Crash(nil, -1)
	d.Fuse(1, nil, -1)
	d.On()
	put(t, d, 0, 'a')
	if d.Flush() != api.OK {
		t.Error("P4.1: a crash cancels the fuse, and there is none without power")
	}
}
