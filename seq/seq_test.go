package seq

import (
	"math"
	"slices"
	"strings"
	"testing"

	"franking/api"
)

func parse(t *testing.T, s string) Set {
	t.Helper()
	x, err := Parse(s)
	if err != api.OK {
		t.Fatalf("P9.1: Parse(%q): %d", s, err)
	}
	return x
}

func TestParse(t *testing.T) {
	for s, want := range map[string][]Span{
		"1": {{1, 1}}, "*": {{0, 0}}, "1:3,5,7:*": {{1, 3}, {5, 5}, {7, 0}}, "9:2": {{9, 2}}, "*:4": {{0, 4}}, "4294967295": {{4294967295, 4294967295}}, "*:*": {{0, 0}}, "5:5": {{5, 5}}, "10:4000000009": {{10, 4000000009}},
	} {
		if x := parse(t, s); !slices.Equal(x.L, want) {
			t.Errorf("P9.1: Parse(%q): %v", s, x)
		}
	}
	for _, s := range []string{"", ",", "1,", ",1", "0", "01", "1:", ":1", "1:2:3", "1 ", " 1", "a", "-1", "+1", "**", "1*", "4294967296", "9999999999", "12345678901", "1:0", "1;2", "\u0661"} {
		if x, err := Parse(s); x.L != nil || err != api.EFORM {
			t.Errorf("P9.1: Parse(%q): %v, %d", s, x, err)
		}
	}
}

func TestParseLimit(t *testing.T) {
	most := strings.TrimSuffix(strings.Repeat("1:2,", api.MaxSeqs), ",")
	if x := parse(t, most); len(x.L) != api.MaxSeqs || Show(x) != most {
		t.Error("P9.1: MaxSeqs elements")
	}
	if x, err := Parse(most + ",*"); x.L != nil || err != api.ELIMIT {
		t.Errorf("P9.1: more than MaxSeqs elements: %d", err)
	}
	if _, err := Parse(most + ",*,"); err != api.EFORM {
		t.Errorf("P9.1: EFORM comes before ELIMIT: %d", err)
	}
}

func TestShow(t *testing.T) {
	for _, s := range []string{"1", "*", "1:3,5,7:*", "9:2", "*:4"} {
		if got := Show(parse(t, s)); got != s {
			t.Errorf("P9.1: Show: %q, not %q", got, s)
		}
	}
	if Show(parse(t, "5:5,*:*")) != "5,*" {
		t.Error("P9.1: Show of equal ends")
	}
	for i, x := range []Set{{}, {[]Span{{-1, 1}}}, {[]Span{{1, -1}}}, {[]Span{{1, 1}, {1, api.MaxUID + 1}}}, {[]Span{{math.MaxInt64, 1}}}, {make([]Span, api.MaxSeqs+1)}} {
		if Show(x) != "" || Has(x, 1, 1) || len(Pick(x, []int64{1})) != 0 {
			t.Errorf("P9.1: set number %d is not valid", i)
		}
	}
}

func TestHas(t *testing.T) {
	for _, c := range []struct {
		s       string
		n, last int64
		want    bool
	}{
		{"3:1", 2, 9, true}, {"3:1", 3, 9, true}, {"3:1", 1, 9, true}, {"3:1", 4, 9, false}, {"*", 9, 9, true}, {"*", 8, 9, false}, {"7:*", 8, 9, true}, {"7:*", 5, 4, true},
		{"7:*", 3, 4, false}, {"*:2", 3, 4, true}, {"*", 0, 0, false}, {"1:*", -1, -5, false}, {"1,3", 2, 9, false}, {"1,3", 3, 9, true}, {"*", math.MaxInt64, math.MaxInt64, true},
	} {
		if Has(parse(t, c.s), c.n, c.last) != c.want {
			t.Errorf("P9.1: Has(%s, %d, %d)", c.s, c.n, c.last)
		}
	}
}

func TestPick(t *testing.T) {
	for _, c := range []struct {
		s       string
		l, want []int64
	}{
		{"2:4", []int64{5, 4, 3, 1, 3}, []int64{4, 3, 3}}, {"*", []int64{5, 9, 2}, []int64{9}}, {"3:*", []int64{-1, 0, 2}, []int64{2}}, {"1:*", nil, nil}, {"*", []int64{-3, 0}, nil},
	} {
		l := slices.Clone(c.l)
		if got := Pick(parse(t, c.s), l); !slices.Equal(got, c.want) || !slices.Equal(l, c.l) {
			t.Errorf("P9.1: Pick(%s, %v): %v", c.s, c.l, got)
		}
	}
}

func TestOf(t *testing.T) {
	for _, c := range []struct {
		l    []int64
		want string
	}{
		{nil, ""}, {[]int64{0, -1, api.MaxUID + 1, math.MinInt64, math.MaxInt64}, ""}, {[]int64{3, 1, 2, 2, 7, 5, 6, 9}, "1:3,5:7,9"}, {[]int64{api.MaxUID, 0, 1}, "1,4294967295"},
	} {
		l := slices.Clone(c.l)
		if got := Show(Of(l)); got != c.want || !slices.Equal(l, c.l) {
			t.Errorf("P9.1: Of(%v): %s", c.l, got)
		}
	}
	var odd []int64
	for n := int64(0); n <= api.MaxSeqs+5; n++ {
		odd = append(odd, 2*n+1)
	}
	if x := Of(append(odd, 200)); len(x.L) != api.MaxSeqs || x.L[api.MaxSeqs-1] != (Span{199, 201}) {
		t.Errorf("P9.1: Of of many spans: %v", Of(odd))
	}
}
