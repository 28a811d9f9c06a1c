package date

import (
	"math"
	"strings"
	"testing"
	"time"

	"franking/api"
)

func TestGood(t *testing.T) {
	good := Date{2024, 2, 29, 23, 59, 59, -1439}
	if !Good(good) || !Good(Date{1970, 1, 1, 0, 0, 0, 1439}) || !Good(Date{9999, 12, 31, 0, 0, 0, 0}) || Good(Date{}) {
		t.Error("P10.1: Good")
	}
	for i, change := range []func(d *Date){
		func(d *Date) { d.Year = 1969 }, func(d *Date) { d.Year = 10000 }, func(d *Date) { d.Year = 2023 }, func(d *Date) { d.Year = 2100 },
		func(d *Date) { d.Month = 0 }, func(d *Date) { d.Month = 13 }, func(d *Date) { d.Day = 0 }, func(d *Date) { d.Day = 30 },
		func(d *Date) { d.Month, d.Day = 4, 31 }, func(d *Date) { d.Month, d.Day = 1, 32 }, func(d *Date) { d.Hour = 24 }, func(d *Date) { d.Hour = -1 },
		func(d *Date) { d.Min = 60 }, func(d *Date) { d.Min = -1 }, func(d *Date) { d.Sec = 60 }, func(d *Date) { d.Sec = -1 },
		func(d *Date) { d.Zone = 1440 }, func(d *Date) { d.Zone = -1440 }, func(d *Date) { d.Day = math.MinInt }, func(d *Date) { d.Year = math.MaxInt },
	} {
		d := good
		change(&d)
		if Good(d) || Unix(d) != 0 || Show(d) != "" {
			t.Errorf("P10.1: date number %d is not valid", i)
		}
	}
	if !Good(Date{2000, 2, 29, 0, 0, 0, 0}) || Good(Date{1900, 2, 28, 0, 0, 0, 0}) {
		t.Error("P10.1: leap years")
	}
}

func TestAgainstLibrary(t *testing.T) {
	end := time.Date(10000, 1, 1, 0, 0, 0, 0, time.UTC).Unix()
	for i := range int64(20000) {
		unix := i*(end/20000) + i*7919%86400
		zone := int(i%2879) - 1439
		d, err := Of(unix, zone)
		local := unix + int64(zone)*60
		if local < 0 || local >= end {
			if err != api.EARG {
				t.Fatalf("P10.1: Of(%d, %d): %d", unix, zone, err)
			}
			continue
		}
		want := time.Unix(unix, 0).In(time.FixedZone("", zone*60))
		if err != api.OK || Unix(d) != unix || d.Zone != zone || Show(d) != want.Format("_2-Jan-2006 15:04:05 -0700") {
			t.Fatalf("P10.1: Of(%d, %d) = %v, %d: %q", unix, zone, d, err, Show(d))
		}
		if back, err := Parse(Show(d)); back != d || err != api.OK {
			t.Fatalf("P10.1: Parse(%q): %v, %d", Show(d), back, err)
		}
		if day, err := Day(strings.ToUpper(want.Format("2-Jan-2006"))); err != api.OK || day != local/86400 {
			t.Fatalf("P10.1: Day of %q: %d, %d", want.Format("2-Jan-2006"), day, err)
		}
	}
}

func TestOfEnds(t *testing.T) {
	last := Unix(Date{9999, 12, 31, 23, 59, 59, 0})
	for _, c := range []struct {
		unix int64
		zone int
		want string
	}{
		{0, 60, " 1-Jan-1970 01:00:00 +0100"}, {0, 0, " 1-Jan-1970 00:00:00 +0000"}, {-86340, 1439, " 1-Jan-1970 00:00:00 +2359"}, {last, 0, "31-Dec-9999 23:59:59 +0000"},
		{last + 86340, -1439, "31-Dec-9999 23:59:59 -2359"}, {951827696, -90, "29-Feb-2000 11:04:56 -0130"},
	} {
		d, err := Of(c.unix, c.zone)
		if err != api.OK || Show(d) != c.want || Unix(d) != c.unix {
			t.Errorf("P10.1: Of(%d, %d): %q, %d", c.unix, c.zone, Show(d), err)
		}
	}
	for _, c := range [][2]int64{{-1, 0}, {-60, 0}, {0, -1}, {-86341, 1439}, {last + 1, 0}, {last + 86341, -1439}, {0, 1440}, {0, -1440}, {math.MaxInt64, 0}, {math.MinInt64, -1439}, {math.MaxInt64, 1439}, {0, math.MaxInt64}} {
		if d, err := Of(c[0], int(c[1])); d != (Date{}) || err != api.EARG {
			t.Errorf("P10.1: Of(%d, %d): %v, %d", c[0], c[1], d, err)
		}
	}
}

func TestParseErrors(t *testing.T) {
	good := " 5-Mar-2020 01:02:03 -0130"
	if d, err := Parse(good); err != api.OK || d != (Date{2020, 3, 5, 1, 2, 3, -90}) {
		t.Errorf("P10.1: Parse: %v, %d", d, err)
	}
	for i := range len(good) {
		for _, c := range "x:/ -+\xff" {
			bad := good[:i] + string(c) + good[i+1:]
			if d, err := Parse(bad); bad != good && err != api.EFORM && Show(d) != bad {
				t.Errorf("P10.1: Parse(%q)", bad)
			}
		}
	}
	for _, s := range []string{
		"", good[1:], good + " ", "05-Mar-2020 01:02:03 -0130", " 5-mar-2020 01:02:03 -0130", " 5-Mar-2020 01:02:03 -0000", " 5-Mar-2020 01:02:03 +0160", " 5-Mar-2020 01:02:03 +2400",
		"30-Feb-2020 01:02:03 +0000", " 5-Mar-1969 01:02:03 +0000", " 5-Mar-2020 24:02:03 +0000", " 0-Mar-2020 01:02:03 +0000", "  -Mar-2020 01:02:03 +0000", " 5-Mar-2020 01:02:60 +0000", "5 -Mar-2020 01:02:03 +0000",
	} {
		if d, err := Parse(s); d != (Date{}) || err != api.EFORM {
			t.Errorf("P10.1: Parse(%q): %v, %d", s, d, err)
		}
	}
}

func TestDay(t *testing.T) {
	for s, want := range map[string]int64{"1-Jan-1970": 0, "01-JAN-1970": 0, "2-jan-1970": 1, "31-dec-9999": 2932896, "29-Feb-2000": 11016} {
		if n, err := Day(s); n != want || err != api.OK {
			t.Errorf("P10.1: Day(%q): %d, %d", s, n, err)
		}
	}
	for _, s := range []string{"", " 1-Jan-1970", "0-Jan-1970", "00-Jan-1970", "001-Jan-1970", "1-Jan-970", "1-Jan-01970", "1-Jan-1969", "1 Jan-1970", "1-Jan 1970", "1-Jam-1970", "29-Feb-1999", "31-Apr-2000", "1-Jan-1970 ", "-1-Jan-1970", "+1-Jan-1970", "1-\x0aan-1970", "1-Jan-197x"} {
		if n, err := Day(s); n != 0 || err != api.EFORM {
			t.Errorf("P10.1: Day(%q): %d, %d", s, n, err)
		}
	}
	for i := range 256 {
		s := "1-Ma" + strings.ToValidUTF8(string([]byte{byte(i)}), "?") + "-1970"
		want := i == 'r' || i == 'R' || i == 'y' || i == 'Y'
		if _, err := Day(s); (err == api.OK) != want {
			t.Errorf("P10.1: Day(%q): %d", s, err)
		}
	}
}
