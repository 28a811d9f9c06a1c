package view

import (
	"bytes"
	"math"
	"slices"
	"strconv"
	"strings"
	"testing"

	"franking/api"
	"franking/flag"
)

// must performs an operation, and fails the test if the number is another one.
func must(t *testing.T, w *World, o Op, want int64) {
	t.Helper()
	if n, err := w.Do(o); n != want || err != api.OK {
		t.Fatalf("P21.1: Do(%v): %d, %d; not %d", o, n, err, want)
	}
}

// refuse performs an operation that has an error, and fails the test if it changes something.
func refuse(t *testing.T, w *World, o Op, want api.Errno) {
	t.Helper()
	was := show(w)
	if n, err := w.Do(o); n != 0 || err != want || show(w) != was {
		t.Fatalf("P21.1: Do(%v): %d, %d; not %d", o, n, err, want)
	}
}

// show tells all labels of a World.
func show(w *World) string {
	s := ""
	for _, name := range w.Names() {
		l, _ := w.Label(name)
		s += name + "/" + strconv.FormatInt(l.Validity, 10) + "/" + strconv.FormatInt(l.Next, 10)
		if l.Sub {
			s += "+"
		}
		for _, r := range l.Rows {
			s += " " + strconv.FormatInt(r.UID, 10) + ":" + strconv.FormatInt(r.ID, 10)
		}
		s += ";"
	}
	return s
}

func check(t *testing.T, w *World, want string) {
	t.Helper()
	if got := show(w); got != want {
		t.Fatalf("P21.1: the World is %s, not %s", got, want)
	}
}

func mailTo(name, body string) Op { return Op{Kind: 1, Name: name, Body: []byte(body)} }

func ids(l ...int64) []int64 { return l }

func TestNewWorld(t *testing.T) {
	w := New()
	check(t, w, "All/2/1;INBOX/1/1;")
	if l, ok := w.Label("InBoX"); l.Name != "INBOX" || !ok {
		t.Error("P21.1: INBOX in another case")
	}
	for _, name := range []string{"all", "ALL", "", "x"} {
		if l, ok := w.Label(name); ok || l.Name != "" || l.Validity != 0 {
			t.Errorf("P21.1: Label(%q)", name)
		}
	}
	for _, kind := range []int{0, 11, -1, math.MaxInt, math.MinInt} {
		refuse(t, w, Op{Kind: kind, Name: "INBOX", Num: 1}, api.EARG)
	}
}

func TestDeliver(t *testing.T) {
	w := New()
	must(t, w, Op{Kind: 2, Name: "a"}, 3)
	must(t, w, Op{Kind: 1, Name: "a", Body: []byte("hi"), Unix: 5, Flags: flag.Set{L: []string{"x", `\seen`}}}, 1)
	must(t, w, mailTo("iNBOX", ""), 2)
	must(t, w, mailTo("All", ""), 3)
	check(t, w, "All/2/4 1:1 2:2 3:3;INBOX/1/2 1:2;a/3/2 1:1;")
	m, ok := w.Msg(1)
	if !ok || string(m.Body) != "hi" || m.Unix != 5 || flag.Show(m.Flags) != `(\Seen x)` || !slices.Equal(w.Of(1), []string{"All", "a"}) || !slices.Equal(w.Of(2), []string{"All", "INBOX"}) || w.Of(4) != nil {
		t.Errorf("P21.1: the message: %v, %v", m, w.Of(1))
	}
	big := strings.Repeat("x", api.MaxMessage+1)
	refuse(t, w, mailTo("none", big), api.EARG)
	refuse(t, w, Op{Kind: 1, Name: "none", Unix: -1}, api.EARG)
	refuse(t, w, Op{Kind: 1, Name: "none", Unix: 1<<40 + 1}, api.EARG)
	refuse(t, w, mailTo("none", ""), api.ENONE)
	must(t, w, Op{Kind: 1, Name: "a", Body: []byte(big[1:]), Unix: 1 << 40}, 4)
}

func TestDeliverLimits(t *testing.T) {
	w := New()
	must(t, w, Op{Kind: 10, Name: "INBOX", Num: api.MaxUID}, api.MaxUID)
	for i := range int64(api.MaxMails - 1) {
		must(t, w, mailTo("All", ""), i+1)
	}
	must(t, w, mailTo("INBOX", ""), api.MaxMails)
	refuse(t, w, mailTo("INBOX", ""), api.EFULL)
	refuse(t, w, mailTo("none", ""), api.ENONE)
	must(t, w, Op{Kind: 7, IDs: ids(1)}, 1)
	refuse(t, w, mailTo("INBOX", ""), api.EEND)
	must(t, w, mailTo("All", ""), api.MaxMails+1)
	w = New()
	must(t, w, Op{Kind: 10, Name: "All", Num: api.MaxUID}, api.MaxUID)
	must(t, w, mailTo("INBOX", ""), 1)
	check(t, w, "All/2/4294967296 4294967295:1;INBOX/1/2 1:1;")
	refuse(t, w, mailTo("INBOX", ""), api.EEND)
	w = New()
	must(t, w, Op{Kind: 10, Name: "All", Num: api.MaxUID + 1}, api.MaxUID+1)
	refuse(t, w, mailTo("INBOX", ""), api.EEND)
	refuse(t, w, mailTo("All", ""), api.EEND)
}

func TestCreate(t *testing.T) {
	w := New()
	must(t, w, Op{Kind: 2, Name: "b"}, 3)
	must(t, w, Op{Kind: 2, Name: "a/é"}, 4)
	check(t, w, "All/2/1;INBOX/1/1;a/é/4/1;b/3/1;")
	for _, name := range []string{"", "/", "a//b", "a*", "\xff", strings.Repeat("n", api.MaxName+1)} {
		refuse(t, w, Op{Kind: 2, Name: name}, api.EARG)
	}
	for _, name := range []string{"b", "inbox", "INBOX", "All"} {
		refuse(t, w, Op{Kind: 2, Name: name}, api.EEXIST)
	}
	must(t, w, Op{Kind: 2, Name: "all"}, 5)
	for i := range int64(api.MaxLabels - 5) {
		must(t, w, Op{Kind: 2, Name: "n" + strconv.FormatInt(i, 10)}, 6+i)
	}
	refuse(t, w, Op{Kind: 2, Name: "more"}, api.ELIMIT)
	refuse(t, w, Op{Kind: 2, Name: "b"}, api.EEXIST)
	refuse(t, w, Op{Kind: 2, Name: "%"}, api.EARG)
	must(t, w, Op{Kind: 3, Name: "b"}, 0)
	must(t, w, Op{Kind: 2, Name: "b"}, api.MaxLabels+1)
}

func TestDelete(t *testing.T) {
	w := New()
	must(t, w, Op{Kind: 2, Name: "a"}, 3)
	must(t, w, mailTo("a", "m"), 1)
	must(t, w, Op{Kind: 9, Name: "a", Num: 1}, 1)
	must(t, w, Op{Kind: 3, Name: "a"}, 0)
	check(t, w, "All/2/2 1:1;INBOX/1/1;")
	refuse(t, w, Op{Kind: 3, Name: "a"}, api.ENONE)
	refuse(t, w, Op{Kind: 3, Name: "inbox"}, api.EREAD)
	refuse(t, w, Op{Kind: 3, Name: "All"}, api.EREAD)
	must(t, w, Op{Kind: 2, Name: "a"}, 4)
	check(t, w, "All/2/2 1:1;INBOX/1/1;a/4/1;")
}

func TestRename(t *testing.T) {
	w := New()
	must(t, w, Op{Kind: 2, Name: "a"}, 3)
	must(t, w, mailTo("a", "m"), 1)
	must(t, w, Op{Kind: 10, Name: "a", Num: 9}, 9)
	must(t, w, Op{Kind: 9, Name: "a", Num: 1}, 1)
	must(t, w, Op{Kind: 4, Name: "a", To: "b"}, 4)
	check(t, w, "All/2/2 1:1;INBOX/1/1;b/4/9+ 1:1;")
	refuse(t, w, Op{Kind: 4, Name: "a", To: ""}, api.ENONE)
	refuse(t, w, Op{Kind: 4, Name: "INBOX", To: ""}, api.EREAD)
	refuse(t, w, Op{Kind: 4, Name: "All", To: "c"}, api.EREAD)
	refuse(t, w, Op{Kind: 4, Name: "b", To: "c/"}, api.EARG)
	for _, to := range []string{"b", "inbox", "All"} {
		refuse(t, w, Op{Kind: 4, Name: "b", To: to}, api.EEXIST)
	}
	must(t, w, Op{Kind: 2, Name: "a"}, 5)
}

func TestAddAndRemove(t *testing.T) {
	w := New()
	for i := range int64(4) {
		must(t, w, mailTo("All", ""), i+1)
	}
	must(t, w, Op{Kind: 5, Name: "inbox", IDs: ids(3, 1, 3)}, 2)
	must(t, w, Op{Kind: 5, Name: "INBOX", IDs: ids(2, 1)}, 1)
	must(t, w, Op{Kind: 5, Name: "INBOX"}, 0)
	must(t, w, Op{Kind: 5, Name: "All", IDs: ids(4)}, 0)
	check(t, w, "All/2/5 1:1 2:2 3:3 4:4;INBOX/1/4 1:3 2:1 3:2;")
	refuse(t, w, Op{Kind: 5, Name: "INBOX", IDs: ids(4, 5)}, api.ENONE)
	refuse(t, w, Op{Kind: 5, Name: "none"}, api.ENONE)
	refuse(t, w, Op{Kind: 6, Name: "none"}, api.ENONE)
	refuse(t, w, Op{Kind: 6, Name: "All"}, api.EREAD)
	must(t, w, Op{Kind: 6, Name: "INBOX", IDs: ids(1, 1, 9, 4, -1)}, 1)
	must(t, w, Op{Kind: 5, Name: "INBOX", IDs: ids(1)}, 1)
	check(t, w, "All/2/5 1:1 2:2 3:3 4:4;INBOX/1/5 1:3 3:2 4:1;")
	must(t, w, Op{Kind: 10, Name: "INBOX", Num: api.MaxUID + 1}, api.MaxUID+1)
	refuse(t, w, Op{Kind: 5, Name: "INBOX", IDs: ids(4)}, api.EEND)
	refuse(t, w, Op{Kind: 5, Name: "INBOX", IDs: ids(4, 9)}, api.ENONE)
	must(t, w, Op{Kind: 5, Name: "INBOX", IDs: ids(1, 2)}, 0)
	must(t, w, Op{Kind: 2, Name: "a"}, 3)
	must(t, w, Op{Kind: 10, Name: "a", Num: api.MaxUID}, api.MaxUID)
	refuse(t, w, Op{Kind: 5, Name: "a", IDs: ids(1, 2)}, api.EEND)
	must(t, w, Op{Kind: 5, Name: "a", IDs: ids(2, 2)}, 1)
}

func TestDropAndFlags(t *testing.T) {
	w := New()
	must(t, w, mailTo("INBOX", ""), 1)
	must(t, w, mailTo("INBOX", ""), 2)
	must(t, w, Op{Kind: 8, IDs: ids(2, 7, 2, 1), Flags: flag.Set{L: []string{"b", "a", `\SEEN`, "(", "A"}}}, 2)
	if m, _ := w.Msg(1); flag.Show(m.Flags) != `(\Seen a b)` {
		t.Errorf("P21.1: flags %v", m.Flags)
	}
	must(t, w, Op{Kind: 8, IDs: ids(2)}, 1)
	if m, _ := w.Msg(2); len(m.Flags.L) != 0 {
		t.Errorf("P21.1: flags %v", m.Flags)
	}
	must(t, w, Op{Kind: 8}, 0)
	must(t, w, Op{Kind: 7, IDs: ids(2, 9, 2)}, 1)
	check(t, w, "All/2/3 1:1;INBOX/1/3 1:1;")
	if _, ok := w.Msg(2); ok || len(w.Of(2)) != 0 {
		t.Error("P21.1: a message that was removed")
	}
	must(t, w, mailTo("INBOX", ""), 3)
	check(t, w, "All/2/4 1:1 3:3;INBOX/1/4 1:1 3:3;")
}

func TestSubscribeAndNext(t *testing.T) {
	w := New()
	must(t, w, Op{Kind: 9, Name: "inbox", Num: 1}, 1)
	must(t, w, Op{Kind: 9, Name: "All", Num: 1}, 1)
	check(t, w, "All/2/1+;INBOX/1/1+;")
	must(t, w, Op{Kind: 9, Name: "All"}, 0)
	refuse(t, w, Op{Kind: 9, Name: "none", Num: 2}, api.ENONE)
	refuse(t, w, Op{Kind: 9, Name: "All", Num: 2}, api.EARG)
	refuse(t, w, Op{Kind: 9, Name: "All", Num: -1}, api.EARG)
	must(t, w, Op{Kind: 10, Name: "All", Num: 1}, 1)
	must(t, w, Op{Kind: 10, Name: "All", Num: 5}, 5)
	for _, n := range []int64{4, 0, -1, api.MaxUID + 2, math.MaxInt64, math.MinInt64} {
		refuse(t, w, Op{Kind: 10, Name: "All", Num: n}, api.EARG)
	}
	refuse(t, w, Op{Kind: 10, Name: "none"}, api.ENONE)
	must(t, w, mailTo("All", ""), 1)
	check(t, w, "All/2/6 5:1;INBOX/1/1+;")
}

func TestThread(t *testing.T) {
	w := New()
	must(t, w, mailTo("All", "Message-ID: <a>"), 1)
	must(t, w, mailTo("All", "In-Reply-To: <a>"), 2)
	must(t, w, Op{Kind: 7, IDs: ids(1)}, 1)
	if n, ok := w.Thread(2); n != 1 || !ok {
		t.Errorf("P21.1: Thread: %d", n)
	}
	if n, ok := w.Thread(1); n != 0 || ok {
		t.Errorf("P21.1: Thread of no message: %d", n)
	}
}

func TestArgumentsAreNotKept(t *testing.T) {
	w := New()
	o := Op{Kind: 1, Name: "All", Body: []byte("m"), Flags: flag.Set{L: []string{"x"}}}
	must(t, w, o, 1)
	o.Body[0], o.Flags.L[0] = '?', "y"
	l := ids(1, 1, 1, 2)
	w.Do(Op{Kind: 7, IDs: l[:3]})
	w.Do(Op{Kind: 8, IDs: l})
	if !slices.Equal(l, ids(1, 1, 1, 2)) {
		t.Error("R4: Do changes its argument")
	}
	must(t, w, mailTo("All", "m"), 2)
	label, _ := w.Label("All")
	label.Rows[0].UID = 99
	m, _ := w.Msg(2)
	m.Body[0] = '?'
	if l, _ := w.Label("All"); l.Rows[0].UID != 2 {
		t.Error("R4: Label shares memory with the World")
	}
	if m, _ := w.Msg(2); string(m.Body) != "m" {
		t.Error("R4: Msg shares memory with the World")
	}
}

func TestEncodeLayout(t *testing.T) {
	o := Op{Kind: 5, Name: "ab", To: "c", IDs: ids(1, -2), Body: []byte("hi"), Unix: 258, Num: -1, Flags: flag.Set{L: []string{"x", ""}}}
	want := "\x05\x00\x02ab\x00\x01c\x00\x02" + "\x00\x00\x00\x00\x00\x00\x00\x01\xff\xff\xff\xff\xff\xff\xff\xfe" + "\x00\x00\x00\x02hi" + "\x00\x00\x00\x00\x00\x00\x01\x02" + "\xff\xff\xff\xff\xff\xff\xff\xff" + "\x02\x01x\x00"
	b := Encode(o)
	if string(b) != want {
		t.Fatalf("P21.1: Encode: %q", b)
	}
	back, err := Decode(b)
	if err != api.OK || !bytes.Equal(Encode(back), b) || back.Num != -1 || back.IDs[1] != -2 || back.To != "c" || back.Unix != 258 || len(back.Flags.L) != 2 {
		t.Errorf("P21.1: Decode: %v, %d", back, err)
	}
	for n := range len(b) {
		if o, err := Decode(b[:n]); err != api.EFORM || o.Kind != 0 || o.Name != "" || o.IDs != nil {
			t.Errorf("P21.1: Decode of %d bytes: %d", n, err)
		}
	}
	if _, err := Decode(append(b, 0)); err != api.EFORM {
		t.Error("P21.1: Decode of a longer text")
	}
	for _, kind := range []byte{0, 11, 255} {
		if _, err := Decode(append([]byte{kind}, b[1:]...)); err != api.EFORM {
			t.Errorf("P21.1: Decode of the Kind %d", kind)
		}
	}
}

func TestEncodeLimits(t *testing.T) {
	name, flags := strings.Repeat("n", 1001), slices.Repeat([]string{strings.Repeat("f", 256)[1:]}, 31)
	most := Op{Kind: 10, Name: name[1:], To: name[1:], IDs: make([]int64, 1000), Body: make([]byte, api.MaxMessage), Flags: flag.Set{L: flags[:30]}}
	if o, err := Decode(Encode(most)); err != api.OK || !bytes.Equal(Encode(o), Encode(most)) {
		t.Error("P21.1: the limits themselves")
	}
	for i, change := range []func(o *Op){
		func(o *Op) { o.Kind = 0 }, func(o *Op) { o.Kind = 11 }, func(o *Op) { o.Kind = 257 }, func(o *Op) { o.Kind = -1 }, func(o *Op) { o.Name = name }, func(o *Op) { o.To = name },
		func(o *Op) { o.IDs = make([]int64, 1001) }, func(o *Op) { o.Body = make([]byte, api.MaxMessage+1) }, func(o *Op) { o.Flags.L = flags }, func(o *Op) { o.Flags.L = []string{strings.Repeat("f", 256)} },
	} {
		o := most
		if change(&o); Encode(o) != nil {
			t.Errorf("P21.1: Encode number %d", i)
		}
	}
	tooMany := Encode(Op{Kind: 1})
	tooMany = append(slices.Clone(tooMany[:5]), append(append([]byte{3, 233}, make([]byte, 8*1001)...), tooMany[7:]...)...)
	if _, err := Decode(tooMany); err != api.EFORM {
		t.Error("P21.1: Decode of more than 1,000 IDs")
	}
}

// worlds makes two equal Worlds and lets each perform operations of its own.
func worlds(t *testing.T, both, first, second []Op) bool {
	t.Helper()
	a, b := New(), New()
	for _, o := range both {
		a.Do(o)
		b.Do(o)
	}
	if !Same(a, b) || !Same(a, a) {
		t.Error("P21.1: Same after the same operations")
	}
	for _, o := range first {
		a.Do(o)
	}
	for _, o := range second {
		b.Do(o)
	}
	if Same(a, b) != Same(b, a) {
		t.Error("P21.1: Same depends on the order")
	}
	return Same(a, b)
}

func TestSame(t *testing.T) {
	both := []Op{mailTo("INBOX", "Message-ID: <a>"), {Kind: 2, Name: "a"}, mailTo("a", "Message-ID: <b>"), {Kind: 7, IDs: ids(1)}}
	for i, c := range []struct {
		first, second []Op
		want          bool
	}{
		{nil, nil, true},
		{[]Op{{Kind: 2, Name: "x"}, {Kind: 3, Name: "x"}}, nil, false},
		{[]Op{{Kind: 2, Name: "x"}, {Kind: 3, Name: "x"}}, []Op{{Kind: 2, Name: "y"}, {Kind: 3, Name: "y"}}, true},
		{[]Op{{Kind: 9, Name: "a", Num: 1}}, nil, false},
		{[]Op{{Kind: 9, Name: "a", Num: 1}, {Kind: 9, Name: "a"}}, nil, true},
		{[]Op{{Kind: 10, Name: "a", Num: 9}}, nil, false},
		{[]Op{{Kind: 8, IDs: ids(2), Flags: flag.Set{L: []string{"x"}}}}, []Op{{Kind: 8, IDs: ids(2), Flags: flag.Set{L: []string{"X"}}}}, false},
		{[]Op{{Kind: 8, IDs: ids(2), Flags: flag.Set{L: []string{"x"}}}, {Kind: 8, IDs: ids(2)}}, nil, true},
		{[]Op{{Kind: 5, Name: "INBOX", IDs: ids(2)}}, nil, false},
		{[]Op{{Kind: 6, Name: "a", IDs: ids(2)}}, nil, false},
		{[]Op{{Kind: 6, Name: "a", IDs: ids(9)}}, nil, true},
		{[]Op{{Kind: 4, Name: "a", To: "b"}}, []Op{{Kind: 2, Name: "x"}, {Kind: 3, Name: "x"}}, false},
		{[]Op{mailTo("All", "m")}, []Op{mailTo("All", "n")}, false},
		{[]Op{mailTo("All", "m")}, []Op{{Kind: 1, Name: "All", Body: []byte("m"), Unix: 1}}, false},
		{[]Op{mailTo("All", "m"), {Kind: 7, IDs: ids(3)}}, []Op{mailTo("All", "n"), {Kind: 7, IDs: ids(3)}}, true},
		{[]Op{mailTo("All", "m"), {Kind: 7, IDs: ids(3)}}, []Op{{Kind: 10, Name: "All", Num: 4}}, false},
	} {
		if worlds(t, both, c.first, c.second) != c.want {
			t.Errorf("P21.1: Same number %d", i)
		}
	}
}

func TestSameKnowsThreadsOfMessagesThatAreGone(t *testing.T) {
	gone := func(bodies ...string) []Op {
		var l []Op
		for i, s := range bodies {
			l = append(l, mailTo("All", s), Op{Kind: 7, IDs: ids(int64(i + 1))})
		}
		return l
	}
	for i, c := range []struct {
		first, second []Op
		want          bool
	}{
		{gone("Message-ID: <a>"), gone("Message-ID: <b>"), false},
		{gone("Message-ID: <a>"), gone("References: <a> \r\nX: y"), true},
		{gone("Message-ID: <a>"), gone(""), false},
		{gone("Message-ID: <a>", "Message-ID: <b>"), gone("Message-ID: <b>", "Message-ID: <a>"), false},
		{gone("References: <a> <b>", "References: <a>"), gone("References: <b> <a>", "In-Reply-To: <b>"), true},
		{gone("References: <a>", "References: <b>", "References: <a> <b>"), gone("References: <a> <b>", "", ""), true},
		{gone("References: <a>", "References: <b>", "References: <a> <b>"), gone("References: <a>", "References: <b>", ""), false},
		{gone("References: <a>", "References: <b> <d>", "References: <a> <b>"), gone("References: <a> <b> <d>", "", ""), true},
		{gone("References: <a>", "References: <b> <d>", "References: <a> <b>"), gone("References: <a> <b>", "References: <d>", ""), false},
		{gone("References: <a>", "References: <b>", "References: <c>", "References: <c> <b>"), gone("References: <a>", "References: <b> <c>", "", ""), true},
		{gone("Message-ID: <a> <b>"), gone("Message-ID: <a>"), true},
		{append(gone("Message-ID: <a>"), Op{Kind: 10, Name: "All", Num: api.MaxUID}), append(gone(""), Op{Kind: 10, Name: "All", Num: api.MaxUID}), false},
		{append(gone("Message-ID: <a>"), Op{Kind: 10, Name: "All", Num: api.MaxUID + 1}), append(gone(""), Op{Kind: 10, Name: "All", Num: api.MaxUID + 1}), true},
		{append(gone("", ""), Op{Kind: 10, Name: "All", Num: api.MaxUID + 1}), append(gone(""), Op{Kind: 10, Name: "All", Num: api.MaxUID + 1}), true},
		{append(gone("", ""), Op{Kind: 10, Name: "All", Num: 9}), append(gone(""), Op{Kind: 10, Name: "All", Num: 9}), false},
	} {
		if worlds(t, nil, c.first, c.second) != c.want {
			t.Errorf("P21.1: Same number %d", i)
		}
	}
}

// TestNumbers performs many operations and checks what T2 promises about UIDs and Validities.
func TestNumbers(t *testing.T) {
	w := New()
	names := []string{"INBOX", "All", "a", "b", "c"}
	owner := map[string]int64{} // by the Validity and the UID, the ID that had it
	x := uint32(5)
	next := func(n int) int {
		x = x*1664525 + 1013904223
		return int(x>>8) % n
	}
	validity := int64(2)
	for range 4000 {
		o := Op{Kind: 1 + next(10), Name: names[next(5)], To: names[next(5)], Num: int64(next(40))}
		for range next(4) {
			o.IDs = append(o.IDs, int64(1+next(60)))
		}
		n, err := w.Do(o)
		if err == api.OK && (o.Kind == 2 || o.Kind == 4) {
			if validity++; n != validity {
				t.Fatalf("T2: the Validity %d, not %d", n, validity)
			}
		}
		for _, name := range w.Names() {
			l, _ := w.Label(name)
			last := int64(0)
			for _, r := range l.Rows {
				key := strconv.FormatInt(l.Validity, 10) + ":" + strconv.FormatInt(r.UID, 10)
				if id, ok := owner[key]; ok && id != r.ID || r.UID <= last || r.UID >= l.Next || !slices.Contains(w.Of(r.ID), name) {
					t.Fatalf("T2: the UID %d of %s", r.UID, name)
				}
				owner[key], last = r.ID, r.UID
			}
		}
	}
}
