package kv

import (
	"bytes"
	"slices"
	"strings"
	"testing"

	"franking/api"
)

func show(l []Pair) string {
	s := ""
	for _, p := range l {
		s += p.Key + "=" + string(p.Value) + " "
	}
	return s
}

func table(t *testing.T, l ...Put) *Table {
	t.Helper()
	k := New()
	if err := k.Commit(l...); err != api.OK {
		t.Fatalf("P7.1: Commit: %d", err)
	}
	return k
}

func set(key, value string) Put { return Put{Key: key, Value: []byte(value)} }

func TestCommitInOrder(t *testing.T) {
	k := table(t, set("b", "1"), set("a", "2"), set("c", ""), Put{Key: "x", Gone: true}, set("b", "3"), Put{Key: "a", Gone: true}, set("a", "4"), Put{Key: "c", Gone: true})
	if got := show(k.Range("", "", 9)); got != "a=4 b=3 " || k.Len() != 2 {
		t.Errorf("P7.1: Commit: %s", got)
	}
	if k.Commit() != api.OK || New().Len() != 0 {
		t.Error("P7.1: Commit of nothing")
	}
}

func TestCommitIsAtomic(t *testing.T) {
	k := table(t, set("a", "1"))
	for i, bad := range []Put{set("", "x"), set(strings.Repeat("k", api.MaxKey+1), "x"), {Key: "b", Value: make([]byte, api.MaxValue+1)}, {Key: "b", Value: []byte("x"), Gone: true}, {Gone: true}} {
		l := []Put{set("a", "2"), bad}
		if k.Commit(l...) != api.EARG || Encode(l...) != nil {
			t.Errorf("P7.1: bad Put number %d", i)
		}
	}
	if show(k.Range("", "", 9)) != "a=1 " {
		t.Error("P7.1: a Commit with EARG changes something")
	}
	if k.Commit(Put{Key: strings.Repeat("k", api.MaxKey), Value: make([]byte, api.MaxValue)}, Put{Key: "g", Value: []byte{}, Gone: true}) != api.OK {
		t.Error("P7.1: the limits themselves")
	}
}

func TestGetCopies(t *testing.T) {
	v := []byte("v")
	k := table(t, Put{Key: "a", Value: v}, set("e", ""))
	v[0] = 'x'
	got, ok := k.Get("a")
	if !ok || string(got) != "v" {
		t.Errorf("P7.1: Get: %q, %v", got, ok)
	}
	got[0] = 'x'
	k.Range("", "", 1)[0].Value[0] = 'y'
	if got, _ := k.Get("a"); string(got) != "v" {
		t.Error("R4: the table shares memory")
	}
	if v, ok := k.Get("e"); !ok || len(v) != 0 {
		t.Error("P7.1: an empty value")
	}
	for _, key := range []string{"", "b", "A"} {
		if v, ok := k.Get(key); ok || v != nil {
			t.Errorf("P7.1: Get(%q)", key)
		}
	}
}

func TestRange(t *testing.T) {
	k := table(t, set("b", "2"), set("\xff", "4"), set("a", "1"), set("ba", "3"))
	for i, c := range []struct {
		from, to string
		most     int
		want     string
	}{
		{"a", "b", 9, "a=1 "}, {"", "", 9, "a=1 b=2 ba=3 \xff=4 "}, {"b", "", 2, "b=2 ba=3 "}, {"aa", "bb", 9, "b=2 ba=3 "},
		{"b", "b", 9, ""}, {"c", "a", 9, ""}, {"", "", 0, ""}, {"", "", -1, ""}, {"", "a", 9, ""}, {"\xff\x00", "", 9, ""}, {"", "c", 1, "a=1 "},
	} {
		if got := show(k.Range(c.from, c.to, c.most)); got != c.want {
			t.Errorf("P7.1: Range number %d: %q", i, got)
		}
	}
}

func TestEncodeLayout(t *testing.T) {
	got := Encode(set("ab", "xyz"), Put{Key: "c", Gone: true}, set("d", ""))
	want := "\x01\x00\x02ab\x00\x00\x00\x03xyz\x00\x00\x01c\x01\x00\x01d\x00\x00\x00\x00"
	if string(got) != want {
		t.Errorf("P7.1: Encode: %q", got)
	}
	l, err := Decode(got)
	if err != api.OK || len(l) != 3 || l[0].Key != "ab" || string(l[0].Value) != "xyz" || l[0].Gone || l[1].Key != "c" || !l[1].Gone || l[2].Key != "d" {
		t.Errorf("P7.1: Decode: %v, %d", l, err)
	}
	l[0].Value[0] = '?'
	if string(got) != want {
		t.Error("R4: Decode shares its argument")
	}
	if l, err := Decode(nil); len(l) != 0 || err != api.OK || len(Encode()) != 0 {
		t.Error("P7.1: no Puts")
	}
	for n := range len(got) {
		l, err := Decode(got[:n])
		if whole := n == 0 || n == 12 || n == 16; whole != (err == api.OK) || !whole && (err != api.EFORM || l != nil) {
			t.Errorf("P7.1: Decode of %d bytes: %d", n, err)
		}
	}
}

func TestDecodeErrors(t *testing.T) {
	long := strings.Repeat("k", api.MaxKey+1)
	for i, s := range []string{
		"\x02\x00\x01a", "\x02\x00\x01a\x00\x00\x00\x00", "\x00\x00\x00", "\x01\x00\x00\x00\x00\x00\x00", "\x00\x00\xc9" + long, "\x01\x00\x01a\x00\x03\x0d\x41" + strings.Repeat("v", api.MaxValue+1),
		"\x01\x00\x01a\xff\xff\xff\xffx", "\x00\x00\x01a\x00",
	} {
		if l, err := Decode([]byte(s)); l != nil || err != api.EFORM {
			t.Errorf("P7.1: Decode number %d: %d", i, err)
		}
	}
	big := []Put{set(long[1:], strings.Repeat("v", api.MaxValue))}
	if l, err := Decode(Encode(big...)); err != api.OK || len(l) != 1 || len(l[0].Value) != api.MaxValue {
		t.Error("P7.1: the limits themselves")
	}
}

func TestBytesAndLoad(t *testing.T) {
	k := table(t, set("b", "2"), set("a", "1"), set("c", ""))
	b := k.Bytes()
	if !bytes.Equal(b, Encode(set("a", "1"), set("b", "2"), set("c", ""))) {
		t.Errorf("P7.1: Bytes: %q", b)
	}
	l, err := Load(b)
	if err != api.OK || !bytes.Equal(l.Bytes(), b) || l.Len() != 3 {
		t.Error("P7.1: Load")
	}
	for i, bad := range [][]byte{Encode(set("b", ""), set("a", "")), Encode(set("a", ""), set("a", "")), Encode(Put{Key: "a", Gone: true}), b[:4], {3}} {
		if l, err := Load(bad); l != nil || err != api.EFORM {
			t.Errorf("P7.1: Load number %d: %d", i, err)
		}
	}
	if l, err := Load(nil); err != api.OK || l.Len() != 0 || len(l.Bytes()) != 0 {
		t.Error("P7.1: Load of nothing")
	}
}

func TestAgainstMap(t *testing.T) {
	k := New()
	model := map[string]string{}
	x := uint32(1)
	for range 3000 {
		x = x*1664525 + 1013904223
		key := string(rune('a'+x>>28)) + string(rune('a'+x>>24&15))
		if x>>20&3 == 0 {
			k.Commit(Put{Key: key, Gone: true})
			delete(model, key)
		} else {
			k.Commit(set(key, key))
			model[key] = key
		}
	}
	var keys []string
	for _, p := range k.Range("", "", 1<<30) {
		keys = append(keys, p.Key)
	}
	if k.Len() != len(model) || len(keys) != len(model) || !slices.IsSorted(keys) {
		t.Errorf("P7.1: %d keys, not %d", k.Len(), len(model))
	}
}
