package crc

import (
	"hash/crc32"
	"testing"
)

func TestKnownSums(t *testing.T) {
	for s, want := range map[string]uint32{"": 0, "123456789": 3421780262, "a": 0xe8b7be43, "\x00": 0xd202ef8d, "\xff\xff\xff\xff": 0xffffffff} {
		if got := Of([]byte(s)); got != want {
			t.Errorf("P3.1: Of(%q) = %d", s, got)
		}
	}
	if Of() != 0 || Of(nil, nil) != 0 || Add(7, nil) != 7 {
		t.Error("P3.1: the sum of no bytes")
	}
}

func TestAgainstLibrary(t *testing.T) {
	b := make([]byte, 0, 1024)
	for i := range 1024 {
		b = append(b, byte(i*i>>3+i))
		cut := len(b) / 3
		want := crc32.ChecksumIEEE(b)
		if Of(b) != want || Of(b[:cut], nil, b[cut:]) != want || Add(Of(b[:cut]), b[cut:]) != want {
			t.Fatalf("P3.1: the sum of %d bytes", len(b))
		}
	}
}
