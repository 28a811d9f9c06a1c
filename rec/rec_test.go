package rec

import (
	"bytes"
	"hash/crc32"
	"math"
	"testing"

	"franking/api"
)

func put(t *testing.T, b []byte, r Rec) []byte {
	t.Helper()
	out, err := Put(b, r)
	if err != api.OK {
		t.Fatalf("P5.1: Put: %d", err)
	}
	return out
}

func TestPutLayout(t *testing.T) {
	want := []byte{0, 0, 0, 2, 0, 0, 0, 0, 0, 0, 1, 2, 'a', 'b'}
	sum := crc32.ChecksumIEEE(want)
	want = append(want, byte(sum>>24), byte(sum>>16), byte(sum>>8), byte(sum))
	b := []byte("xy")[:1:2]
	got := put(t, b, Rec{258, []byte("ab")})
	if !bytes.Equal(got, append([]byte("x"), want...)) || string(b[:2]) != "xy" {
		t.Errorf("P5.1: Put: %v", got)
	}
	if Size(Rec{1, []byte("ab")}) != 18 || Size(Rec{1, nil}) != 16 || len(put(t, nil, Rec{1, nil})) != 16 {
		t.Error("P5.1: Size")
	}
}

func TestPutErrors(t *testing.T) {
	big := make([]byte, api.MaxValue+1)
	for i, r := range []Rec{{0, nil}, {-1, nil}, {math.MinInt64, nil}, {1, big}} {
		if b, err := Put([]byte("x"), r); b != nil || err != api.EARG || Size(r) != 0 {
			t.Errorf("P5.1: Put number %d", i)
		}
	}
	r := Rec{math.MaxInt64, big[1:]}
	b := put(t, nil, r)
	if got, n, err := Get(append(b, 1, 2)); err != api.OK || n != Size(r) || got.Num != r.Num || !bytes.Equal(got.Body, r.Body) {
		t.Error("P5.1: the greatest record")
	}
}

func TestGetErrors(t *testing.T) {
	b := put(t, nil, Rec{7, []byte("body")})
	for n := range len(b) {
		if r, m, err := Get(b[:n]); r.Num != 0 || r.Body != nil || m != 0 || err != api.EMORE {
			t.Errorf("P5.1: Get of %d bytes: %d", n, err)
		}
	}
	for i := 4; i < len(b); i++ {
		bad := bytes.Clone(b)
		bad[i] ^= 0x10
		if _, n, err := Get(bad); n != 0 || err != api.EFORM {
			t.Errorf("P5.1: Get with byte %d changed: %d", i, err)
		}
	}
	if _, _, err := Get([]byte{0, 3, 13, 64}); err != api.EMORE {
		t.Errorf("P5.1: the length MaxValue: %d", err)
	}
	for _, l := range [][]byte{{0, 3, 13, 65}, {255, 255, 255, 255}} {
		if r, n, err := Get(l); r.Num != 0 || n != 0 || err != api.EFORM {
			t.Errorf("P5.1: the length %v: %d", l, err)
		}
	}
	for _, num := range []byte{0, 0x80} {
		bad := append([]byte{0, 0, 0, 0, num}, make([]byte, 7)...)
		sum := crc32.ChecksumIEEE(bad)
		bad = append(bad, byte(sum>>24), byte(sum>>16), byte(sum>>8), byte(sum))
		if _, _, err := Get(bad); err != api.EFORM {
			t.Errorf("P5.1: a number less than 1: %d", err)
		}
	}
}

func TestGetCopies(t *testing.T) {
	b := put(t, nil, Rec{1, []byte("ab")})
	r, _, _ := Get(b)
	r.Body[0] = 'x'
	if again, _, err := Get(b); err != api.OK || string(again.Body) != "ab" {
		t.Error("R4: Get shares its argument")
	}
}

func TestScan(t *testing.T) {
	b := put(t, nil, Rec{5, []byte("a")})
	b = put(t, b, Rec{6, nil})
	two := len(b)
	b = put(t, b, Rec{8, []byte("c")})
	l, n := Scan(b, 5)
	if len(l) != 2 || n != two || l[0].Num != 5 || string(l[0].Body) != "a" || l[1].Num != 6 || len(l[1].Body) != 0 {
		t.Errorf("P5.1: Scan: %v, %d", l, n)
	}
	for _, first := range []int64{4, 6, 0, -1, math.MaxInt64} {
		if l, n := Scan(b, first); len(l) != 0 || n != 0 {
			t.Errorf("P5.1: Scan from %d", first)
		}
	}
	if l, n := Scan(b[:two-1], 5); len(l) != 1 || n != 17 {
		t.Error("P5.1: Scan of a torn record")
	}
	last := put(t, nil, Rec{math.MaxInt64, nil})
	end := len(last)
	last = put(t, last, Rec{1, nil})
	if l, n := Scan(last, math.MaxInt64); len(l) != 1 || n != end {
		t.Error("P5.1: Scan beyond the greatest number")
	}
	if l, n := Scan(nil, 1); len(l) != 0 || n != 0 {
		t.Error("P5.1: Scan of nothing")
	}
}
