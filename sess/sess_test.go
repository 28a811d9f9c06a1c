package sess

import (
	"slices"
	"strconv"
	"strings"
	"testing"

	"franking/api"
	"franking/cmd"
	"franking/find"
	"franking/flag"
	"franking/view"
)

// world is a Post that remembers the operations, and refuses them while full is set.
type world struct {
	w    *view.World
	ops  []view.Op
	full int // how many operations are performed before one is refused; none is if it is negative
}

func (p *world) Do(o view.Op) (int64, api.Errno) {
	if p.full == 0 {
		return 0, api.EFULL
	}
	p.full--
	p.ops = append(p.ops, o)
	return p.w.Do(o)
}

func (p *world) World() *view.World { return p.w }

// rig is a session under test, and others beside it.
type rig struct {
	*testing.T
	p *world
	s *Session
}

// begin makes a World with four messages; INBOX has the first three and `a` the last two.
func begin(t *testing.T) *rig {
	p := &world{w: view.New(), full: -1}
	p.Do(view.Op{Kind: 2, Name: "a"})
	for i, name := range []string{"INBOX", "INBOX", "INBOX", "a"} {
		p.Do(view.Op{Kind: 1, Name: name, Body: []byte("Subject: m" + strconv.Itoa(i+1) + "\r\n\r\nbody"), Unix: int64(i) * 86400})
	}
	p.Do(view.Op{Kind: 5, Name: "a", IDs: []int64{3}})
	p.ops = nil
	return &rig{t, p, New(p, "user", "pass")}
}

// send executes a command and checks the lines of its response, which are separated by |.
func (r *rig) send(text, want string) {
	r.Helper()
	c, n, err := cmd.Parse([]byte(text + "\r\n"))
	if err != api.OK || n != len(text)+2 {
		r.Fatalf("the command %q: %d", text, err)
	}
	if got := strings.Join(r.s.Do(c), "|"); got != want {
		r.Errorf("P26.1: %s: %q, not %q", text, got, want)
	}
}

func (r *rig) do(o view.Op) {
	r.Helper()
	if _, err := r.p.w.Do(o); err != api.OK {
		r.Fatalf("%v: %d", o, err)
	}
}

func (r *rig) flags(id int64, l ...string) {
	r.Helper()
	r.do(view.Op{Kind: 8, IDs: []int64{id}, Flags: flag.Set{L: l}})
}

func (r *rig) shows(id int64, want string) {
	r.Helper()
	if m, _ := r.p.w.Msg(id); flag.Show(m.Flags) != want {
		r.Errorf("P26.1: message %d has the flags %v", id, m.Flags)
	}
}

func (r *rig) uids(name, want string) {
	r.Helper()
	l, _ := r.p.w.Label(name)
	got := ""
	for _, row := range l.Rows {
		got += strconv.FormatInt(row.UID, 10) + ":" + strconv.FormatInt(row.ID, 10) + " "
	}
	if got != want {
		r.Errorf("P26.1: the label %s has %s, not %s", name, got, want)
	}
}

func (r *rig) login() *rig {
	r.Helper()
	r.send("l login user pass", "l OK LOGIN")
	return r
}

const opened = `* FLAGS (\Answered \Deleted \Draft \Flagged \Seen)|* 3 EXISTS|* 0 RECENT|* OK [UIDVALIDITY 1]|* OK [UIDNEXT 4]|`

func (r *rig) selects() *rig {
	r.Helper()
	r.login().send("s select inbox", opened+"s OK [READ-WRITE] SELECT")
	return r
}

func (r *rig) examines() *rig {
	r.Helper()
	r.login().send("s examine INBOX", opened+"s OK [READ-ONLY] EXAMINE")
	return r
}

func TestStates(t *testing.T) {
	r := begin(t)
	every := []string{"NOOP", "CHECK", "CAPABILITY", "SELECT inbox", "EXAMINE inbox", "CREATE b", "DELETE x", "RENAME x y", "SUBSCRIBE x", "UNSUBSCRIBE x", "LIST x y", "LSUB x y", "STATUS x (messages)", "APPEND x \"y\"", "IDLE", "CLOSE", "EXPUNGE", "SEARCH all", "FETCH 1 flags", "STORE 1 flags ()", "COPY 1 x", "UID FETCH 1 flags"}
	for _, s := range every {
		if name, _, _ := strings.Cut(s, " "); !slices.Contains([]string{"NOOP", "CHECK", "CAPABILITY"}, name) {
			r.send("a "+s, "a BAD "+name)
		}
	}
	if r.s.State() != 1 || r.s.UIDs() != nil || r.s.Idle() != nil {
		t.Error("P26.1: the first state")
	}
	if name, ro, ok := r.s.Selected(); name != "" || ro || ok {
		t.Error("P26.1: Selected in the first state")
	}
	r.login()
	r.send("a login user pass", "a BAD LOGIN")
	for _, s := range every[15:] {
		name, _, _ := strings.Cut(s, " ")
		r.send("a "+s, "a BAD "+name)
	}
	r.send("a idle", "a OK IDLE")
	if r.s.State() != 2 || r.s.UIDs() != nil || r.s.Idle() != nil {
		t.Error("P26.1: the second state")
	}
	r.send("a select inbox", opened+"a OK [READ-WRITE] SELECT")
	if name, ro, ok := r.s.Selected(); r.s.State() != 3 || name != "INBOX" || ro || !ok || !slices.Equal(r.s.UIDs(), []int64{1, 2, 3}) {
		t.Error("P26.1: the third state")
	}
	r.send("a login user pass", "a BAD LOGIN")
	r.send("a logout", "* BYE|a OK LOGOUT")
	if r.s.State() != 4 || r.s.Do(cmd.Cmd{Tag: "a", Name: "NOOP"}) != nil || r.s.Do(cmd.Cmd{Tag: "a", Name: "XX"}) != nil || r.s.Idle() != nil || r.s.UIDs() != nil {
		t.Error("P26.1: the last state")
	}
	if _, _, ok := r.s.Selected(); ok {
		t.Error("P26.1: Selected in the last state")
	}
}

func TestPlainCommands(t *testing.T) {
	r := begin(t)
	r.send("a noop", "a OK NOOP")
	r.send("a check", "a OK CHECK")
	r.send("a capability", "* CAPABILITY IMAP4rev1 IDLE LITERAL+ X-GM-EXT-1|a OK CAPABILITY")
	for _, s := range []string{"noop", "check", "capability", "logout"} {
		r.send("a "+s+" x", "a BAD "+strings.ToUpper(s))
	}
	r.send("b xyzzy", "b BAD BAD")
	r.send("b xyzzy (1 2)", "b BAD BAD")
	if got := r.s.Do(cmd.Cmd{Tag: "t", Name: "noop"}); !slices.Equal(got, []string{"t BAD BAD"}) {
		t.Errorf("P26.1: a name in small letters: %q", got)
	}
	for _, s := range []string{"login", "login user", "login user pass x", "login (user) pass", "login user (pass)"} {
		r.send("a "+s, "a BAD LOGIN")
	}
	for _, s := range []string{"login user x", "login x pass", "login User pass", "login \"\" \"\""} {
		r.send("a "+s, "a NO LOGIN")
	}
	r.send("a login \"user\" {4+}\r\npass", "a OK LOGIN")
}

func TestSelect(t *testing.T) {
	r := begin(t).login()
	for _, s := range []string{"select", "select a b", "select (a)", "select &", "select a&b", "examine"} {
		name, _, _ := strings.Cut(s, " ")
		r.send("a "+s, "a BAD "+strings.ToUpper(name))
	}
	r.send("a select none", "a NO SELECT")
	r.send("a examine \"a\"", `* FLAGS (\Answered \Deleted \Draft \Flagged \Seen)|* 2 EXISTS|* 0 RECENT|* OK [UIDVALIDITY 3]|* OK [UIDNEXT 3]|a OK [READ-ONLY] EXAMINE`)
	if name, ro, ok := r.s.Selected(); name != "a" || !ro || !ok {
		t.Error("P26.1: Selected after EXAMINE")
	}
	r.send("a select &", "a BAD SELECT")
	if r.s.State() != 3 {
		t.Error("P26.1: a SELECT with BAD leaves the mailbox")
	}
	r.send("a select none", "a NO SELECT")
	if r.s.State() != 2 || r.s.UIDs() != nil {
		t.Error("P26.1: a SELECT with NO leaves the mailbox")
	}
	r.send("a select InBox", opened+"a OK [READ-WRITE] SELECT")
	if name, ro, _ := r.s.Selected(); name != "INBOX" || ro {
		t.Error("P26.1: the name of the selected label")
	}
	r.do(view.Op{Kind: 2, Name: "é"})
	r.send("a select &AOk-", `* FLAGS (\Answered \Deleted \Draft \Flagged \Seen)|* 0 EXISTS|* 0 RECENT|* OK [UIDVALIDITY 4]|* OK [UIDNEXT 1]|a OK [READ-WRITE] SELECT`)
}

func TestMailboxes(t *testing.T) {
	r := begin(t).login()
	r.send("a create b/&AOk-", "a OK CREATE")
	r.send("a create b/&AOk-", "a NO CREATE")
	r.send("a create a*", "a NO CREATE")
	r.send("a create &", "a BAD CREATE")
	r.send("a create", "a BAD CREATE")
	r.send("a create a b", "a BAD CREATE")
	r.send("a rename b/&AOk- c", "a OK RENAME")
	r.send("a rename c c", "a NO RENAME")
	r.send("a rename inbox d", "a NO RENAME")
	r.send("a rename c", "a BAD RENAME")
	r.send("a rename c (d)", "a BAD RENAME")
	r.send("a subscribe c", "a OK SUBSCRIBE")
	r.send("a subscribe none", "a NO SUBSCRIBE")
	r.send("a subscribe INBOX", "a OK SUBSCRIBE")
	r.send("a unsubscribe inbox", "a OK UNSUBSCRIBE")
	r.send("a unsubscribe none", "a NO UNSUBSCRIBE")
	r.send("a unsubscribe", "a BAD UNSUBSCRIBE")
	r.send("a lsub \"\" *", `* LSUB () "/" "c"|a OK LSUB`)
	r.send("a delete c", "a OK DELETE")
	r.send("a delete c", "a NO DELETE")
	r.send("a delete All", "a NO DELETE")
	r.send("a delete (c)", "a BAD DELETE")
	if l, ok := r.p.w.Label("c"); ok {
		t.Errorf("P26.1: DELETE: %v", l)
	}
}

func TestListAndLsub(t *testing.T) {
	r := begin(t).login()
	for _, name := range []string{"b/x", "b/x/y", "é&"} {
		r.do(view.Op{Kind: 2, Name: name})
	}
	r.do(view.Op{Kind: 9, Name: "b/x", Num: 1})
	r.do(view.Op{Kind: 9, Name: "é&", Num: 1})
	r.send("a list \"\" *", `* LIST () "/" "All"|* LIST () "/" "INBOX"|* LIST () "/" "a"|* LIST () "/" "b/x"|* LIST () "/" "b/x/y"|* LIST () "/" "&AOk-&-"|a OK LIST`)
	r.send("a list b/ %", `* LIST () "/" "b/x"|a OK LIST`)
	r.send("a list \"\" inbox", `* LIST () "/" "INBOX"|a OK LIST`)
	r.send("a list in box", `* LIST () "/" "INBOX"|a OK LIST`)
	r.send("a list &AOk- *", `* LIST () "/" "&AOk-&-"|a OK LIST`)
	r.send("a list \"\" \"\"", "a OK LIST")
	r.send("a lsub \"\" %", `* LSUB () "/" "&AOk-&-"|a OK LSUB`)
	r.send("a lsub b *", `* LSUB () "/" "b/x"|a OK LSUB`)
	for _, s := range []string{"", " a", " a b c", " & b", " a &", " (a) b", " a (b)", " &AO k-"} {
		r.send("a list"+s, "a BAD LIST")
		r.send("a lsub"+s, "a BAD LSUB")
	}
}

func TestStatus(t *testing.T) {
	r := begin(t).login()
	r.flags(2, `\Seen`)
	r.send("a status inbox (messages UIDnext UIDVALIDITY unseen MESSAGES)", `* STATUS "INBOX" (MESSAGES 3 UIDNEXT 4 UIDVALIDITY 1 UNSEEN 2 MESSAGES 3)|a OK STATUS`)
	r.send("a status \"a\" (unseen)", `* STATUS "a" (UNSEEN 2)|a OK STATUS`)
	r.send("a status none (unseen)", "a NO STATUS")
	for _, s := range []string{"", " a", " a ()", " a unseen", " a (recent)", " a (\"unseen\")", " a (unseen) x", " (a) (unseen)", " & (unseen)", " a ((unseen))", " none (x)"} {
		r.send("a status"+s, "a BAD STATUS")
	}
}

func TestAppend(t *testing.T) {
	r := begin(t).selects()
	r.send("a append a \"m\"", "a OK APPEND")
	r.send("a append inbox (\\seen x) {3+}\r\n\r\nm", "* 4 EXISTS|a OK APPEND")
	r.send("a append inbox \" 2-Jan-1970 00:00:00 +0000\" \"n\"", "* 5 EXISTS|a OK APPEND")
	r.send("a append All () \" 1-Jan-1970 01:00:00 +0000\" \"o\"", "a OK APPEND")
	for id, want := range map[int64]string{5: "() 0 m", 6: "(\\Seen x) 0 \r\nm", 7: "() 86400 n", 8: "() 3600 o"} {
		m, _ := r.p.w.Msg(id)
		if got := flag.Show(m.Flags) + " " + strconv.FormatInt(m.Unix, 10) + " " + string(m.Body); got != want {
			t.Errorf("P26.1: the message %d: %q", id, got)
		}
	}
	for _, s := range []string{
		"", " a", " a m", " a (x)", " a (x) m", " a (x) (y) \"m\"", " a \"x\" \"m\"", " a 1-Jan-1970 \"m\"", " a () 1 \"m\"", " a \"\" () \"m\"", " & \"m\"", " (a) \"m\"", " a (\"x\") \"m\"", " a (x x) \"m\"", " a (\\x) \"m\"", " a ((x)) \"m\"",
		" a () \" 2-Jan-1970 00:00:00 +0000\" \"m\" \"n\"", " a () \"m\" (x)", " a \" 2-Jan-1970 00:00:00 +0000\" m", " none (\\x) \"m\"", " none \"x\" \"m\"",
	} {
		r.send("a append"+s, "a BAD APPEND")
	}
	many := ""
	for i := range 31 {
		many += " k" + strconv.Itoa(i)
	}
	r.send("a append a ("+many[1:]+") \"m\"", "a BAD APPEND")
	r.do(view.Op{Kind: 5, Name: "INBOX", IDs: []int64{4}})
	r.send("a append none \"m\"", "* 6 EXISTS|a NO APPEND")
	r.send("a append a \" 1-Jan-1970 00:00:00 +0100\" \"m\"", "a NO APPEND")
	r.do(view.Op{Kind: 6, Name: "INBOX", IDs: []int64{1}})
	r.send("a append inbox \"p\"", "* 7 EXISTS|a OK APPEND")
	if got := r.s.Do(cmd.Cmd{Tag: "a", Name: "APPEND", Args: []find.Word{{Text: "a"}, {IsList: true, List: []find.Word{{Text: "x y"}}}, {Quoted: true}}}); got[0] != "a BAD APPEND" {
		t.Errorf("P26.1: a word with a space is no flag: %q", got)
	}
	if got := r.s.Do(cmd.Cmd{Tag: "a", Name: "APPEND", Args: []find.Word{{Text: "a"}, {IsList: true, List: []find.Word{{}}}, {Quoted: true}}}); got[0] != "a BAD APPEND" {
		t.Errorf("P26.1: an empty word is no flag: %q", got)
	}
}

func TestCloseAndExpunge(t *testing.T) {
	r := begin(t).selects()
	r.flags(1, `\Deleted`)
	r.flags(3, `\Deleted`, "x")
	r.flags(4, `\Deleted`)
	r.send("a expunge", "* 3 EXPUNGE|* 1 EXPUNGE|a OK EXPUNGE")
	r.uids("INBOX", "2:2 ")
	r.uids("All", "1:1 2:2 3:3 4:4 ")
	r.send("a expunge", "a OK EXPUNGE")
	r.send("a expunge x", "a BAD EXPUNGE")
	r.flags(2, `\deleted`)
	r.send("a close x", "a BAD CLOSE")
	r.do(view.Op{Kind: 5, Name: "INBOX", IDs: []int64{1}})
	r.send("a close", "a OK CLOSE")
	r.uids("INBOX", "4:1 ")
	if r.s.State() != 2 {
		t.Error("P26.1: the state after CLOSE")
	}
	r.send("a select All", `* FLAGS (\Answered \Deleted \Draft \Flagged \Seen)|* 4 EXISTS|* 0 RECENT|* OK [UIDVALIDITY 2]|* OK [UIDNEXT 5]|a OK [READ-WRITE] SELECT`)
	r.flags(1)
	r.send("a expunge", "* 4 EXPUNGE|* 3 EXPUNGE|* 2 EXPUNGE|a OK EXPUNGE")
	r.uids("All", "1:1 ")
	r.uids("a", "")
}

func TestExpungeLeavesWhatTheSessionWasNotTold(t *testing.T) {
	r := begin(t).selects()
	r.do(view.Op{Kind: 1, Name: "INBOX", Flags: flag.Set{L: []string{`\Deleted`}}})
	r.flags(1, `\Deleted`)
	r.send("a expunge", "* 1 EXPUNGE|* 3 EXISTS|a OK EXPUNGE")
	r.uids("INBOX", "2:2 3:3 4:5 ")
	r.send("a expunge", "* 3 EXPUNGE|a OK EXPUNGE")
}

func TestReadOnly(t *testing.T) {
	r := begin(t).examines()
	r.flags(1, `\Deleted`)
	r.do(view.Op{Kind: 1, Name: "INBOX"})
	r.send("a expunge", "a NO EXPUNGE")
	r.send("a store 1 flags ()", "a NO STORE")
	r.send("a store 1 +x-gm-labels (a)", "a NO STORE")
	r.send("a uid store 1 flags (x)", "a NO UID")
	r.send("a store 1 flags x", "a BAD STORE")
	r.shows(1, `(\Deleted)`)
	r.send("a fetch 1 body[text]", "* 1 FETCH (BODY[TEXT] \"body\")|* 4 EXISTS|a OK FETCH")
	r.shows(1, `(\Deleted)`)
	r.send("a copy 1 a", "a OK COPY")
	r.uids("a", "1:4 2:3 3:1 ")
	r.send("a close", "a OK CLOSE")
	r.uids("INBOX", "1:1 2:2 3:3 4:5 ")
	if r.s.State() != 2 {
		t.Error("P26.1: the state after CLOSE")
	}
}

func TestMissingLabel(t *testing.T) {
	for i, ops := range [][]view.Op{{{Kind: 3, Name: "a"}}, {{Kind: 4, Name: "a", To: "b"}}, {{Kind: 3, Name: "a"}, {Kind: 2, Name: "a"}}, {{Kind: 4, Name: "a", To: "b"}, {Kind: 4, Name: "b", To: "a"}}} {
		r := begin(t).login()
		r.s.Do(cmd.Cmd{Tag: "a", Name: "SELECT", Args: []find.Word{{Text: "a"}}})
		for _, o := range ops {
			r.do(o)
		}
		for _, s := range []string{"close", "expunge", "search all", "fetch 1 flags", "store 1 flags ()", "copy 1 INBOX", "uid fetch 1 flags"} {
			name, _, _ := strings.Cut(s, " ")
			r.send("x "+s, "x NO "+strings.ToUpper(name))
		}
		r.send("x fetch x flags", "x BAD FETCH")
		r.send("x noop", "x OK NOOP")
		r.send("x idle", "x OK IDLE")
		r.send("x append inbox \"m\"", "x OK APPEND")
		if name, _, ok := r.s.Selected(); name != "a" || !ok || r.s.State() != 3 || !slices.Equal(r.s.UIDs(), []int64{1, 2}) || r.s.Idle() != nil {
			t.Errorf("P26.1: the selected label is missing, number %d", i)
		}
		r.send("x select inbox", strings.Replace(strings.Replace(opened, "3 EXISTS", "4 EXISTS", 1), "UIDNEXT 4", "UIDNEXT 5", 1)+"x OK [READ-WRITE] SELECT")
	}
}

func TestSearch(t *testing.T) {
	r := begin(t).selects()
	r.flags(2, `\Seen`)
	r.do(view.Op{Kind: 6, Name: "INBOX", IDs: []int64{1}})
	r.do(view.Op{Kind: 5, Name: "INBOX", IDs: []int64{4}})
	r.send("a search all", "* SEARCH 2 3|* 4 EXISTS|a OK SEARCH")
	r.send("a search *", "* SEARCH 4|a OK SEARCH")
	r.send("a search uid *", "* SEARCH 4|a OK SEARCH")
	r.send("a search unseen 2:*", "* SEARCH 3 4|a OK SEARCH")
	r.send("a search deleted", "* SEARCH|a OK SEARCH")
	r.send("a search x-gm-labels a", "* SEARCH 3 4|a OK SEARCH")
	r.send("a search x-gm-msgid 4", "* SEARCH 4|a OK SEARCH")
	r.send("a search x-gm-thrid 2", "* SEARCH 2|a OK SEARCH")
	r.send("a search subject \"M3\"", "* SEARCH 3|a OK SEARCH")
	r.send("a search since 3-Jan-1970", "* SEARCH 3 4|a OK SEARCH")
	r.send("a uid search (or 2 subject m4)", "* SEARCH 2 4|* 1 EXPUNGE|a OK UID")
	r.send("a uid search 1:*", "* SEARCH 2 3 4|a OK UID")
	r.send("a search 2", "* SEARCH 2|a OK SEARCH")
	for _, s := range []string{"search", "search x", "search ()", "search " + strings.Repeat("not ", 40) + "all", "uid search", "uid", "uid x", "uid \"search\" all", "uid (search) all", "uid noop", "uid expunge", "uid uid search all"} {
		name, _, _ := strings.Cut(s, " ")
		r.send("a "+s, "a BAD "+strings.ToUpper(name))
	}
}

func TestFetch(t *testing.T) {
	r := begin(t).selects()
	r.flags(3, "x")
	r.send("a fetch 3,1 (flags x-gm-labels)", `* 1 FETCH (FLAGS () X-GM-LABELS ("All" "INBOX"))|* 3 FETCH (FLAGS (x) X-GM-LABELS ("All" "INBOX" "a"))|a OK FETCH`)
	r.send("a fetch * fast", `* 3 FETCH (FLAGS (x) INTERNALDATE " 3-Jan-1970 00:00:00 +0000" RFC822.SIZE 19)|a OK FETCH`)
	r.send("a fetch 2:1 (uid x-gm-msgid x-gm-thrid)", "* 1 FETCH (UID 1 X-GM-MSGID 1 X-GM-THRID 1)|* 2 FETCH (UID 2 X-GM-MSGID 2 X-GM-THRID 2)|a OK FETCH")
	r.send("a fetch 4:9 flags", "a OK FETCH")
	if len(r.p.ops) != 0 {
		t.Errorf("P26.1: FETCH performs %v", r.p.ops)
	}
	r.send("a fetch 1:2 (body[text]<0.2> flags)", `* 1 FETCH (BODY[TEXT]<0> "bo" FLAGS (\Seen))|* 2 FETCH (BODY[TEXT]<0> "bo" FLAGS (\Seen))|a OK FETCH`)
	r.send("a fetch 3 body.peek[text]", `* 3 FETCH (BODY[TEXT] "body")|a OK FETCH`)
	r.send("a fetch 1:2 body[header]", "* 1 FETCH (BODY[HEADER] {15}\r\nSubject: m1\r\n\r\n)|* 2 FETCH (BODY[HEADER] {15}\r\nSubject: m2\r\n\r\n)|a OK FETCH")
	if len(r.p.ops) != 2 {
		t.Errorf("P26.1: FETCH performs %v", r.p.ops)
	}
	r.shows(1, `(\Seen)`)
	r.shows(3, "(x)")
	for _, s := range []string{"", " 1", " 1 flags x", " \"1\" flags", " (1) flags", " 0 flags", " 1 \"flags\"", " 1 ()", " 1 (x)", " 1 (all)", " x flags", " 1 flags uid"} {
		r.send("a fetch"+s, "a BAD FETCH")
		r.send("a uid fetch"+s, "a BAD UID")
	}
}

func TestUIDFetch(t *testing.T) {
	r := begin(t).selects()
	r.do(view.Op{Kind: 6, Name: "INBOX", IDs: []int64{1}})
	r.send("a fetch 1:* flags", "* 2 FETCH (FLAGS ())|* 3 FETCH (FLAGS ())|a OK FETCH")
	r.do(view.Op{Kind: 5, Name: "INBOX", IDs: []int64{4}})
	r.send("a uid fetch 1:* flags", "* 2 FETCH (UID 2 FLAGS ())|* 3 FETCH (UID 3 FLAGS ())|* 1 EXPUNGE|* 3 EXISTS|a OK UID")
	r.send("a uid FETCH 2,4 (flags uid)", "* 1 FETCH (FLAGS () UID 2)|* 3 FETCH (FLAGS () UID 4)|a OK UID")
	r.send("a uid fetch 9:* all", `* 3 FETCH (UID 4 FLAGS () INTERNALDATE " 4-Jan-1970 00:00:00 +0000" RFC822.SIZE 19 ENVELOPE (NIL "m4" NIL NIL NIL NIL NIL NIL NIL NIL))|a OK UID`)
	r.send("a uid fetch 1 flags", "a OK UID")
}

func TestStoreFlags(t *testing.T) {
	r := begin(t).selects()
	r.send("a store 1,2 flags (x \\seen)", `* 1 FETCH (FLAGS (\Seen x))|* 2 FETCH (FLAGS (\Seen x))|a OK STORE`)
	r.send("a store 2 +FLAGS (y X)", `* 2 FETCH (FLAGS (\Seen x y))|a OK STORE`)
	r.send("a store 2 -Flags (\\SEEN z)", `* 2 FETCH (FLAGS (x y))|a OK STORE`)
	r.send("a store 1 flags.silent ()", "a OK STORE")
	r.shows(1, "()")
	r.send("a uid store 3 +flags.SILENT (b)", "a OK UID")
	r.shows(3, "(b)")
	r.send("a uid store 2:* -flags (x)", "* 2 FETCH (UID 2 FLAGS (y))|* 3 FETCH (UID 3 FLAGS (b))|a OK UID")
	r.do(view.Op{Kind: 6, Name: "INBOX", IDs: []int64{1}})
	r.send("a store 1:2 flags (n)", "* 2 FETCH (FLAGS (n))|a OK STORE")
	r.shows(1, "()")
	r.send("a uid store 3 flags (n)", "* 3 FETCH (UID 3 FLAGS (n))|* 1 EXPUNGE|a OK UID")
	for _, s := range []string{"", " 1", " 1 flags", " 1 flags x", " 1 flags (x) y", " 1 (flags) (x)", " 1 \"flags\" (x)", " 1 flag (x)", " 1 flags. (x)", " 1 .silent (x)", " 1 flags.silent.silent (x)", " 1 ++flags (x)", " 1 flags (\"x\")", " 1 flags (x x)", " 1 flags (\\x)", " 0 flags (x)", " x-gm-labels", " 1 x-gm-labels (a)"} {
		r.send("a store"+s, "a BAD STORE")
		r.send("a uid store"+s, "a BAD UID")
	}
}

func TestStoreLabels(t *testing.T) {
	r := begin(t).selects()
	r.do(view.Op{Kind: 2, Name: "é"})
	r.send("a store 2:3 +x-gm-labels (a \"&AOk-\")", "a OK STORE")
	r.uids("a", "1:4 2:3 3:2 ")
	r.uids("é", "1:2 2:3 ")
	r.send("a store 3 -X-GM-Labels.silent (a inbox)", "a OK STORE")
	r.uids("INBOX", "1:1 2:2 ")
	r.send("a uid store 2 -x-gm-labels (INBOX)", "* 3 EXPUNGE|* 2 EXPUNGE|a OK UID")
	r.send("a store 1 +x-gm-labels (a none &AOk-)", "a NO STORE")
	r.uids("a", "1:4 3:2 4:1 ")
	r.uids("é", "1:2 2:3 ")
	r.send("a store 1 -x-gm-labels (All)", "a NO STORE")
	r.send("a store 9 +x-gm-labels (none)", "a NO STORE")
	r.send("a store 1 +x-gm-labels ()", "a OK STORE")
	for _, s := range []string{"a", "(&)", "((a))", "(a &)"} {
		r.send("a store 1 +x-gm-labels "+s, "a BAD STORE")
	}
}

func TestCopy(t *testing.T) {
	r := begin(t).selects()
	r.send("a copy 1:2 a", "a OK COPY")
	r.uids("a", "1:4 2:3 3:1 4:2 ")
	r.send("a uid copy 3 All", "a OK UID")
	r.send("a copy 1 none", "a NO COPY")
	r.send("a copy 9 none", "a NO COPY")
	r.send("a copy 9 a", "a OK COPY")
	r.do(view.Op{Kind: 10, Name: "a", Num: api.MaxUID + 1})
	r.send("a copy 1:3 a", "a OK COPY")
	r.do(view.Op{Kind: 1, Name: "INBOX"})
	r.send("a copy 4 a", "* 4 EXISTS|a OK COPY")
	r.send("a copy 4 a", "a NO COPY")
	for _, s := range []string{"", " 1", " 1 a b", " x a", " 1 &", " 1 (a)", " \"1\" a"} {
		r.send("a copy"+s, "a BAD COPY")
		r.send("a uid copy"+s, "a BAD UID")
	}
}

func TestErrorsOfOperations(t *testing.T) {
	r := begin(t).selects()
	r.flags(1, `\Deleted`)
	r.do(view.Op{Kind: 6, Name: "INBOX", IDs: []int64{3}})
	r.p.full = 1
	r.send("a store 1:2 +flags (x)", `* 1 FETCH (FLAGS (\Deleted x))|a NO STORE`)
	r.p.full = 1
	r.send("a fetch 1:2 body[text]", `* 1 FETCH (BODY[TEXT] "body")|a NO FETCH`)
	r.shows(2, "()")
	r.p.full = 0
	r.send("a close", "a NO CLOSE")
	if r.s.State() != 3 {
		t.Error("P26.1: the state after CLOSE with NO")
	}
	r.send("a copy 1 a", "a NO COPY")
	r.send("a append a \"m\"", "a NO APPEND")
	r.send("a create b", "a NO CREATE")
	r.p.full = 1
	r.send("a uid store 1 +x-gm-labels (a All)", "* 3 EXPUNGE|a NO UID")
	r.uids("a", "1:4 2:3 3:1 ")
	r.p.full = 0
	r.do(view.Op{Kind: 6, Name: "INBOX", IDs: []int64{2}})
	r.send("a expunge", "* 2 EXPUNGE|a NO EXPUNGE")
}

func TestIdle(t *testing.T) {
	r := begin(t).selects()
	r.do(view.Op{Kind: 6, Name: "INBOX", IDs: []int64{2}})
	r.do(view.Op{Kind: 1, Name: "INBOX"})
	if got := r.s.Idle(); !slices.Equal(got, []string{"* 2 EXPUNGE", "* 3 EXISTS"}) || r.s.Idle() != nil || !slices.Equal(r.s.UIDs(), []int64{1, 3, 4}) {
		t.Errorf("P26.1: Idle: %q", got)
	}
	r.do(view.Op{Kind: 6, Name: "INBOX", IDs: []int64{1}})
	r.send("a idle x", "a BAD IDLE")
	r.send("a idle", "* 1 EXPUNGE|a OK IDLE")
	r.do(view.Op{Kind: 1, Name: "INBOX"})
	r.send("a capability", "* CAPABILITY IMAP4rev1 IDLE LITERAL+ X-GM-EXT-1|a OK CAPABILITY")
	r.send("a create b", "a OK CREATE")
	r.send("a check", "* 3 EXISTS|a OK CHECK")
}

// TestMessageList checks what T4 promises, with a second session that changes the label.
func TestMessageList(t *testing.T) {
	r := begin(t).selects()
	other := New(r.p, "u", "p")
	other.Do(cmd.Cmd{Tag: "a", Name: "LOGIN", Args: []find.Word{{Text: "u"}, {Text: "p"}}})
	other.Do(cmd.Cmd{Tag: "a", Name: "SELECT", Args: []find.Word{{Text: "INBOX"}}})
	run := func(s *Session, text string) []string {
		c, _, _ := cmd.Parse([]byte("a " + text + "\r\n"))
		return s.Do(c)
	}
	texts := []string{"fetch 1:* flags", "store 1:2 +flags (\\Deleted)", "expunge", "uid copy 1:* a", "noop", "append inbox \"m\"", "search all", "uid store * +x-gm-labels (a)", "store 2 -x-gm-labels (inbox)", "uid search all", "append inbox \"n\"", "copy 1 inbox"}
	x, length := uint32(9), 3
	for range 3000 {
		x = x*1664525 + 1013904223
		run(other, texts[int(x>>8)%len(texts)])
		text := texts[int(x>>16)%len(texts)]
		lines := run(r.s, text)
		for _, line := range lines {
			word := strings.Fields(line)
			if len(word) < 3 || word[0] != "*" {
				continue
			}
			n, _ := strconv.Atoi(word[1])
			switch word[2] {
			case "EXPUNGE":
				if name, _, _ := strings.Cut(text, " "); name == "fetch" || name == "store" || name == "search" || name == "copy" || n > length {
					t.Fatalf("T4: %s is answered by %q", text, lines)
				}
				length--
			case "EXISTS":
				length = n
			}
		}
		if length != len(r.s.UIDs()) {
			t.Fatalf("T4: the list has %d messages, not %d", len(r.s.UIDs()), length)
		}
		l, _ := r.p.w.Label("INBOX")
		if text == "noop" && (len(l.Rows) != length || !slices.EqualFunc(l.Rows, r.s.UIDs(), func(row view.Row, uid int64) bool { return row.UID == uid })) {
			t.Fatalf("T4: after a NOOP the list is %v", r.s.UIDs())
		}
	}
}
