package sess

import (
	"strconv"
	"strings"

	"franking/api"
	"franking/date"
	"franking/find"
	"franking/flag"
	"franking/snap"
	"franking/utf7"
	"franking/view"
)

// The Kinds of view's operations on mailboxes.
const (
	opDeliver   = 1
	opCreate    = 2
	opDelete    = 3
	opRename    = 4
	opSubscribe = 9
)

func (s *Session) capability() job {
	return job{run: func() ([]string, bool) {
		return []string{"* CAPABILITY IMAP4rev1 IDLE LITERAL+ X-GM-EXT-1"}, true
	}}
}

func (s *Session) logout() job {
	return job{run: func() ([]string, bool) {
		s.state, s.box = loggedOut, box{}
		return []string{"* BYE"}, true
	}}
}

func (s *Session) login(args []find.Word) (job, bool) {
	l, ok := texts(args, 2)
	return job{run: func() ([]string, bool) {
		if l[0] != s.user || l[1] != s.pass {
			return nil, false
		}
		s.state = authenticated
		return nil, true
	}}, ok
}

// open plans SELECT and EXAMINE.
func (s *Session) open(args []find.Word, readOnly bool) (job, bool) {
	l, ok := names(args, 1)
	j := job{code: " [READ-WRITE]"}
	if readOnly {
		j.code = " [READ-ONLY]"
	}
	j.run = func() ([]string, bool) {
		s.leave()
		label, ok := s.post.World().Label(l[0])
		if !ok {
			return nil, false
		}
		s.state = selected
		s.box = box{label.Name, label.Validity, readOnly, snap.Of(label)}
		return []string{
			`* FLAGS (\Answered \Deleted \Draft \Flagged \Seen)`,
			"* " + strconv.Itoa(len(label.Rows)) + " EXISTS",
			"* 0 RECENT",
			"* OK [UIDVALIDITY " + decimal(label.Validity) + "]",
			"* OK [UIDNEXT " + decimal(label.Next) + "]",
		}, true
	}
	return j, ok
}

// leave leaves the selected mailbox.
func (s *Session) leave() {
	s.state, s.box = authenticated, box{}
}

// change plans the commands that are one operation on mailboxes.
func (s *Session) change(name string, args []find.Word) (job, bool) {
	o := view.Op{Kind: opSubscribe}
	many := 1
	switch name {
	case "CREATE":
		o.Kind = opCreate
	case "DELETE":
		o.Kind = opDelete
	case "RENAME":
		o.Kind = opRename
		many = 2
	case "SUBSCRIBE":
		o.Num = 1
	}
	l, ok := names(args, many)
	if !ok {
		return job{}, false
	}
	o.Name = l[0]
	if many == 2 {
		o.To = l[1]
	}
	return job{run: func() ([]string, bool) { return nil, s.do(o) }}, true
}

// list plans LIST and LSUB.
func (s *Session) list(command string, args []find.Word) (job, bool) {
	l, ok := names(args, 2)
	return job{run: func() ([]string, bool) {
		var lines []string
		w := s.post.World()
		for _, name := range w.Names() {
			label, _ := w.Label(name)
			if utf7.Match(l[0]+l[1], name) && (label.Sub || command == "LIST") {
				lines = append(lines, "* "+command+" () \"/\" "+shown(name))
			}
		}
		return lines, true
	}}, ok
}

func (s *Session) status(args []find.Word) (job, bool) {
	if len(args) != 2 || !args[1].IsList || len(args[1].List) == 0 {
		return job{}, false
	}
	l, ok := names(args[:1], 1)
	var items []string
	for _, w := range args[1].List {
		item := upper(w.Text)
		if !plain(w) || !statusItem(item) {
			return job{}, false
		}
		items = append(items, item)
	}
	return job{run: func() ([]string, bool) {
		label, ok := s.post.World().Label(l[0])
		if !ok {
			return nil, false
		}
		var out []string
		for _, item := range items {
			out = append(out, item+" "+decimal(s.statusOf(item, label)))
		}
		return []string{"* STATUS " + shown(label.Name) + " (" + strings.Join(out, " ") + ")"}, true
	}}, ok
}

func statusItem(item string) bool {
	switch item {
	case "MESSAGES", "UIDNEXT", "UIDVALIDITY", "UNSEEN":
		return true
	}
	return false
}

func (s *Session) statusOf(item string, l view.Label) int64 {
	switch item {
	case "MESSAGES":
		return int64(len(l.Rows))
	case "UIDNEXT":
		return l.Next
	case "UIDVALIDITY":
		return l.Validity
	}
	var unseen int64
	for _, r := range l.Rows {
		if !s.has(r.ID, seen) {
			unseen++
		}
	}
	return unseen
}

// appendMail plans APPEND m [flags] [date] message.
func (s *Session) appendMail(args []find.Word) (job, bool) {
	if len(args) < 2 {
		return job{}, false
	}
	l, ok := names(args[:1], 1)
	args = args[1:]
	var f flag.Set
	if ok && args[0].IsList {
		f, ok = flagsOf(args[0])
		args = args[1:]
	}
	var unix int64
	if ok && len(args) == 2 {
		unix, ok = unixOf(args[0])
		args = args[1:]
	}
	if !ok || len(args) != 1 || !quoted(args[0]) {
		return job{}, false
	}
	o := view.Op{Kind: opDeliver, Name: l[0], Body: []byte(args[0].Text), Unix: unix, Flags: f}
	return job{sync: keeping, run: func() ([]string, bool) { return nil, s.do(o) }}, true
}

func unixOf(w find.Word) (int64, bool) {
	d, err := date.Parse(w.Text)
	return date.Unix(d), quoted(w) && err == api.OK
}

func decimal(n int64) string { return strconv.FormatInt(n, 10) }
