package server

import (
	"bytes"
	"slices"
	"strconv"
	"strings"
	"testing"

	"franking/api"
	"franking/cmd"
	"franking/sess"
	"franking/store"
	"franking/view"
)

func server(t *testing.T, sessions, sectors int) *Server {
	t.Helper()
	v, err := New(sessions, sectors)
	if err != api.OK {
		t.Fatalf("P28.1: New(%d, %d): %d", sessions, sectors, err)
	}
	return v
}

func do(t *testing.T, v *Server, a Act, want api.Errno) {
	t.Helper()
	if err := v.Do(a); err != want {
		t.Fatalf("P28.1: Do(%d, %d, %q): %d, not %d", a.Op, a.N, a.B, err, want)
	}
}

// send lets bytes arrive at a session, which then performs one step.
func send(t *testing.T, v *Server, n int, text string) {
	t.Helper()
	do(t, v, Act{Op: 1, N: n, B: []byte(text)}, api.OK)
	do(t, v, Act{Op: 2, N: n}, api.OK)
}

func out(t *testing.T, v *Server, n int, want string) {
	t.Helper()
	if got := strings.ReplaceAll(string(v.Out(n)), "\r\n", "|"); got != want {
		t.Fatalf("P28.1: Out(%d): %q, not %q", n, got, want)
	}
}

func TestNew(t *testing.T) {
	for _, c := range [][2]int{{0, 100}, {-1, 100}, {9, 100}, {1, 7}, {1, 0}, {1, -1}, {1, api.MaxSectors + 1}} {
		if v, err := New(c[0], c[1]); v != nil || err != api.EARG {
			t.Errorf("P28.1: New(%v): %d", c, err)
		}
	}
	server(t, 1, 8)
	v := server(t, 8, api.MaxSectors)
	for n := range 8 {
		if v.Open(n) || v.Out(n) != nil {
			t.Errorf("P28.1: session %d of a new server", n)
		}
	}
	if !v.Up() || v.Open(-1) || v.Open(8) || v.Out(-1) != nil || v.Out(8) != nil || !view.Same(v.World(), view.New()) {
		t.Error("P28.1: a new server")
	}
}

func TestExample(t *testing.T) {
	v := server(t, 1, 100)
	do(t, v, Act{}, api.OK)
	send(t, v, 0, "a noop\r\n")
	out(t, v, 0, "* OK ready|a OK NOOP|")
	v.Out(0)[0] = 'x'
	out(t, v, 0, "* OK ready|a OK NOOP|")
}

func TestErrors(t *testing.T) {
	v := server(t, 2, 100)
	for _, op := range []int{-1, 9, 1 << 62} {
		do(t, v, Act{Op: op}, api.EARG)
	}
	for op := range 4 {
		do(t, v, Act{Op: op, N: 2}, api.EARG)
		do(t, v, Act{Op: op, N: -1}, api.EARG)
	}
	for op := 1; op < 4; op++ {
		do(t, v, Act{Op: op, B: make([]byte, api.MaxLine+1)}, api.ENONE)
	}
	do(t, v, Act{Op: 0, N: 1}, api.OK)
	do(t, v, Act{Op: 0, N: 1}, api.EEXIST)
	do(t, v, Act{Op: 2, N: 1}, api.ENONE)
	do(t, v, Act{Op: 1, N: 1, B: make([]byte, api.MaxLine+1)}, api.EARG)
	for range api.MaxQueue {
		do(t, v, Act{Op: 1, N: 1, B: make([]byte, api.MaxLine)}, api.OK)
	}
	do(t, v, Act{Op: 1, N: 1, B: make([]byte, api.MaxLine+1)}, api.EFULL)
	do(t, v, Act{Op: 4, B: make([]byte, api.MaxMessage+1)}, api.EARG)
	do(t, v, Act{Op: 6, N: 77}, api.OK)
	if !v.Open(1) {
		t.Error("P28.1: Op 6 with the power on does nothing")
	}
	do(t, v, Act{Op: 5, N: -1}, api.OK)
	for op := range 9 {
		if op != 6 {
			do(t, v, Act{Op: op, N: 99}, api.EOFF)
		}
	}
	do(t, v, Act{Op: 9}, api.EARG)
	if v.Up() || v.Open(1) {
		t.Error("P28.1: after the power was lost")
	}
	out(t, v, 1, "* OK ready|")
	do(t, v, Act{Op: 6}, api.OK)
	do(t, v, Act{Op: 2, N: 1}, api.ENONE)
	do(t, v, Act{Op: 0, N: 1}, api.OK)
	do(t, v, Act{Op: 2, N: 1}, api.ENONE)
}

func TestStepsOfOneChunk(t *testing.T) {
	v := server(t, 1, 100)
	do(t, v, Act{}, api.OK)
	send(t, v, 0, "a noop\r\nb noop\r\nc no")
	out(t, v, 0, "* OK ready|a OK NOOP|")
	do(t, v, Act{Op: 2}, api.OK)
	do(t, v, Act{Op: 2}, api.ENONE)
	out(t, v, 0, "* OK ready|a OK NOOP|b OK NOOP|")
	send(t, v, 0, "o")
	out(t, v, 0, "* OK ready|a OK NOOP|b OK NOOP|")
	do(t, v, Act{Op: 1, B: []byte("p\r")}, api.OK)
	send(t, v, 0, "\n")
	do(t, v, Act{Op: 2}, api.OK)
	out(t, v, 0, "* OK ready|a OK NOOP|b OK NOOP|c OK NOOP|")
}

// TestLongestLine sends a line of as many bytes as may be, the CRLF behind it byte by byte, and then a longer one.
func TestLongestLine(t *testing.T) {
	v := server(t, 1, 100)
	do(t, v, Act{}, api.OK)
	tag := strings.Repeat("x", api.MaxLine-len(" noop"))
	for _, chunk := range []string{tag + " noop", "\r", "\n"} {
		send(t, v, 0, chunk)
	}
	out(t, v, 0, "* OK ready|"+tag+" OK NOOP|")
	for _, chunk := range []string{"x" + tag, " noop", "\r", "\n"} {
		send(t, v, 0, chunk)
	}
	out(t, v, 0, "* OK ready|"+tag+" OK NOOP|* BAD|")
}

func TestFaultyCommands(t *testing.T) {
	v := server(t, 1, 100)
	do(t, v, Act{}, api.OK)
	send(t, v, 0, "(\r\na b {99999}\r\nc noop\r\n")
	do(t, v, Act{Op: 2}, api.OK)
	do(t, v, Act{Op: 2}, api.OK)
	do(t, v, Act{Op: 2}, api.ENONE)
	send(t, v, 0, "a  x")
	send(t, v, 0, "\r\n")
	out(t, v, 0, "* OK ready|* BAD|* BAD|c OK NOOP|* BAD|")
}

func TestLiterals(t *testing.T) {
	v := server(t, 1, 100)
	do(t, v, Act{}, api.OK)
	send(t, v, 0, "a login {4}\r\n")
	out(t, v, 0, "* OK ready|+ go|")
	send(t, v, 0, "")
	send(t, v, 0, "us")
	out(t, v, 0, "* OK ready|+ go|")
	send(t, v, 0, "er {4}\r\n")
	out(t, v, 0, "* OK ready|+ go|+ go|")
	send(t, v, 0, "pass\r\nb x {1}\r\n")
	out(t, v, 0, "* OK ready|+ go|+ go|a OK LOGIN|+ go|")
	send(t, v, 0, "y\r\nc x {1+}\r\n")
	do(t, v, Act{Op: 2}, api.ENONE)
	out(t, v, 0, "* OK ready|+ go|+ go|a OK LOGIN|+ go|b BAD BAD|")
	send(t, v, 0, "y {0}\r\n")
	send(t, v, 0, "")
	send(t, v, 0, "\r\nd x {0}\r\n")
	out(t, v, 0, "* OK ready|+ go|+ go|a OK LOGIN|+ go|b BAD BAD|+ go|c BAD BAD|+ go|")
	send(t, v, 0, "\r\ne x {0}\r\n")
	out(t, v, 0, "* OK ready|+ go|+ go|a OK LOGIN|+ go|b BAD BAD|+ go|c BAD BAD|+ go|d BAD BAD|+ go|")
}

func TestLogoutClosesSession(t *testing.T) {
	v := server(t, 2, 100)
	do(t, v, Act{}, api.OK)
	do(t, v, Act{Op: 1, B: []byte("never")}, api.OK)
	do(t, v, Act{Op: 0, N: 1}, api.OK)
	send(t, v, 1, "a logout\r\nb x {1}\r\n")
	out(t, v, 1, "* OK ready|* BYE|a OK LOGOUT|")
	if v.Open(1) || !v.Open(0) {
		t.Error("P28.1: LOGOUT closes one session")
	}
	do(t, v, Act{Op: 1, N: 1}, api.ENONE)
	do(t, v, Act{Op: 0, N: 1}, api.OK)
	do(t, v, Act{Op: 2, N: 1}, api.ENONE)
	send(t, v, 1, "c capability\r\n")
	out(t, v, 1, "* OK ready|* CAPABILITY IMAP4rev1 IDLE LITERAL+ X-GM-EXT-1|c OK CAPABILITY|")
	out(t, v, 0, "* OK ready|")
}

const selected = `* OK ready|l OK LOGIN|* FLAGS (\Answered \Deleted \Draft \Flagged \Seen)|* 0 EXISTS|* 0 RECENT|* OK [UIDVALIDITY 1]|* OK [UIDNEXT 1]|s OK [READ-WRITE] SELECT|`

func selects(t *testing.T, v *Server, n int) {
	t.Helper()
	do(t, v, Act{N: n}, api.OK)
	send(t, v, n, "l login user pass\r\n")
	send(t, v, n, "s select inbox\r\n")
}

func TestDeliverAndIdle(t *testing.T) {
	v := server(t, 2, 100)
	selects(t, v, 0)
	do(t, v, Act{Op: 4, B: []byte("Subject: x\r\n\r\nbody")}, api.OK)
	out(t, v, 0, selected)
	do(t, v, Act{Op: 3}, api.OK)
	do(t, v, Act{Op: 3}, api.OK)
	out(t, v, 0, selected+"* 1 EXISTS|")
	send(t, v, 0, "a fetch 1 (flags body[text] internaldate)\r\n")
	out(t, v, 0, selected+`* 1 EXISTS|* 1 FETCH (FLAGS (\Seen) BODY[TEXT] "body" INTERNALDATE " 1-Jan-1970 00:00:00 +0000")|a OK FETCH|`)
	do(t, v, Act{Op: 0, N: 1}, api.OK)
	do(t, v, Act{Op: 3, N: 1}, api.OK)
	out(t, v, 1, "* OK ready|")
}

func TestFuse(t *testing.T) {
	v := server(t, 2, 100)
	selects(t, v, 0)
	do(t, v, Act{N: 1}, api.OK)
	do(t, v, Act{Op: 8, N: 1}, api.OK)
	do(t, v, Act{Op: 1, B: []byte("a noop\r\nb create x\r\nc noop\r\n")}, api.OK)
	do(t, v, Act{Op: 2}, api.OK)
	do(t, v, Act{Op: 2}, api.EOFF)
	out(t, v, 0, selected+"a OK NOOP|")
	if v.Up() || v.Open(0) || v.Open(1) || !view.Same(v.World(), view.New()) {
		t.Error("P28.1: a power loss in a step")
	}
	do(t, v, Act{Op: 6}, api.OK)
	do(t, v, Act{Op: 8, N: 2, Keep: []int{0}}, api.OK)
	do(t, v, Act{Op: 4, B: []byte("m")}, api.EOFF)
	do(t, v, Act{Op: 6}, api.OK)
	do(t, v, Act{N: 1}, api.OK)
	do(t, v, Act{Op: 8, N: 1}, api.OK)
	do(t, v, Act{Op: 7}, api.EOFF)
	if v.Up() || v.Open(1) {
		t.Error("P28.1: a power loss in Keep")
	}
	do(t, v, Act{Op: 6}, api.OK)
	do(t, v, Act{Op: 7}, api.OK)
	do(t, v, Act{Op: 8, N: 1}, api.OK)
	do(t, v, Act{Op: 8, N: 0}, api.OK)
	do(t, v, Act{Op: 4, B: []byte("m")}, api.OK)
}

func TestFullStore(t *testing.T) {
	v := server(t, 1, 8)
	selects(t, v, 0)
	for v.Do(Act{Op: 4, B: make([]byte, 100)}) == api.OK {
	}
	do(t, v, Act{Op: 4, B: make([]byte, 100)}, api.EFULL)
	send(t, v, 0, "a create "+strings.Repeat("n", 90)+"\r\n")
	if got := string(v.Out(0)); !strings.HasSuffix(got, "a NO CREATE\r\n") {
		t.Errorf("P28.1: an operation without space: %q", got)
	}
}

// commands is a long dialogue, in which literals and faults occur.
func commands() []string {
	l := []string{"l login user {4+}\r\npass\r\n", "a create b\r\n", "a select inbox\r\n", "x (\r\n", "a append inbox (\\seen x) {9}\r\nA: b\r\n\r\nc\r\n", "a append b {22+}\r\nMessage-ID: <a>\r\n\r\nhi\x00\r\n"}
	texts := []string{
		"fetch 1:* (flags uid)", "fetch * body[]", "uid fetch 1:* (x-gm-labels x-gm-thrid)", "store 1 +flags (\\Deleted)", "append inbox {3}\r\n\r\nq", "copy 1 b", "uid store 1:* +x-gm-labels (b)", "search unseen", "expunge", "noop",
		"select b", "select inbox", "close", "status b (messages unseen)", "list \"\" *", "rename b c", "create b", "delete c", "xyzzy", "idle", "uid search all", "fetch 1 (envelope bodystructure)", "append b (x) \" 1-Jan-1980 00:00:00 +0000\" \"old\"", "examine All", "store 1:3 -flags.silent (\\Deleted)",
	}
	x := uint32(77)
	for i := range 400 {
		x = x*1664525 + 1013904223
		l = append(l, "t"+strconv.Itoa(i)+" "+texts[int(x>>9)%len(texts)]+"\r\n")
	}
	return l
}

// TestResponses checks T1: a session gets the responses of a session on a World by itself.
func TestResponses(t *testing.T) {
	alone := sess.New(store.NewPlain(), "user", "pass")
	want := "* OK ready\r\n"
	whole := strings.Join(commands(), "")
	for b := []byte(whole); len(b) > 0; {
		c, n, err := cmd.Parse(b)
		if err == api.OK {
			for _, line := range alone.Do(c) {
				want += line + "\r\n"
			}
		} else {
			want += "* BAD\r\n"
		}
		b = b[n:]
	}
	for seed := range uint32(6) {
		v := server(t, 1, api.MaxSectors)
		do(t, v, Act{}, api.OK)
		x := seed
		for rest := whole; rest != ""; {
			x = x*1664525 + 1013904223
			n := min(1+int(x>>10)%(1+int(seed)*30), len(rest))
			do(t, v, Act{Op: 1, B: []byte(rest[:n])}, api.OK)
			rest = rest[n:]
			for v.Do(Act{Op: 2}) == api.OK {
			}
		}
		got := strings.ReplaceAll(string(v.Out(0)), "+ go\r\n", "")
		if got != want {
			t.Fatalf("T1: with chunks of seed %d: %d bytes, not %d", seed, len(got), len(want))
		}
	}
}

// TestMessagesComeBack checks T5, byte for byte.
func TestMessagesComeBack(t *testing.T) {
	v := server(t, 1, 2000)
	all := make([]byte, 256)
	for i := range all {
		all[i] = byte(i)
	}
	do(t, v, Act{Op: 4, B: all}, api.OK)
	do(t, v, Act{Op: 5, N: -1}, api.OK)
	do(t, v, Act{Op: 6}, api.OK)
	do(t, v, Act{}, api.OK)
	send(t, v, 0, "l login user pass\r\n")
	send(t, v, 0, "s examine inbox\r\n")
	send(t, v, 0, "f fetch 1 body[]\r\n")
	if !bytes.HasSuffix(v.Out(0), slices.Concat([]byte("* 1 FETCH (BODY[] {256}\r\n"), all, []byte(")\r\nf OK FETCH\r\n"))) {
		t.Errorf("T5: %q", v.Out(0))
	}
}

// TestCrashes checks T3: after a crash the World is that of the operations that were answered, or
// of one more.
func TestCrashes(t *testing.T) {
	for calls := 1; calls <= 150; calls++ {
		for mode, keep := range [][]int{nil, {0}, {0, 1, 2}} {
			v := server(t, 1, 2000)
			do(t, v, Act{}, api.OK)
			do(t, v, Act{Op: 8, N: calls, Keep: keep}, api.OK)
			done := untilCrash(t, v)
			do(t, v, Act{Op: 6}, api.OK)
			worlds := worldsDuringLast(done)
			if !slices.ContainsFunc(worlds, func(w *view.World) bool { return view.Same(w, v.World()) }) {
				t.Fatalf("T3: the World after a crash at call %d, mode %d, in %q", calls, mode, done[len(done)-1])
			}
		}
	}
}

// untilCrash sends the dialogue until the power is lost, and tells the commands that were sent.
func untilCrash(t *testing.T, v *Server) []string {
	t.Helper()
	list := commands()
	for i, text := range list {
		do(t, v, Act{Op: 1, B: []byte(text)}, api.OK)
		if v.Do(Act{Op: 2}) == api.EOFF {
			return list[:i+1]
		}
	}
	t.Fatal("T3: no crash")
	return nil
}

// worldsDuringLast tells the World before the last command, and after each of its operations.
func worldsDuringLast(texts []string) []*view.World {
	r := &recorder{p: store.NewPlain()}
	s := sess.New(r, "user", "pass")
	for _, text := range texts {
		r.worlds = []*view.World{r.replay()}
		if c, _, err := cmd.Parse([]byte(text)); err == api.OK {
			s.Do(c)
		}
	}
	return r.worlds
}

// recorder is a Post that keeps the Worlds after each operation.
type recorder struct {
	p      *store.Plain
	ops    []view.Op
	worlds []*view.World
}

func (r *recorder) Do(o view.Op) (int64, api.Errno) {
	n, err := r.p.Do(o)
	r.ops = append(r.ops, o)
	r.worlds = append(r.worlds, r.replay())
	return n, err
}

func (r *recorder) World() *view.World { return r.p.World() }

func (r *recorder) replay() *view.World {
	w := view.New()
	for _, o := range r.ops {
		w.Do(o)
	}
	return w
}
