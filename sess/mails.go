package sess

import (
	"slices"
	"strings"

	"franking/api"
	"franking/find"
	"franking/flag"
	"franking/octet"
	"franking/resp"
	"franking/seq"
	"franking/view"
)

// The Kinds of view's operations on messages.
const (
	opAdd   = 5
	opTake  = 6
	opDrop  = 7
	opFlags = 8
)

const (
	seen    = `\Seen`
	deleted = `\Deleted`
	every   = "All" // the label whose messages cannot be taken from it
)

// The Kinds of resp's items that answer a STORE.
const (
	itemFlags = 1
	itemUID   = 2
)

// member is a message of the list of the session.
type member struct{ n, uid, id int64 }

// members tells those messages of the list that the selected label still contains.
func (s *Session) members() []member {
	label, _ := s.label()
	ids := map[int64]int64{}
	for _, r := range label.Rows {
		ids[r.UID] = r.ID
	}
	var l []member
	for i, uid := range s.box.list.UIDs() {
		if id, ok := ids[uid]; ok {
			l = append(l, member{int64(i) + 1, uid, id})
		}
	}
	return l
}

// pick tells those members whose sequence number or UID is in a set.
func (s *Session) pick(set seq.Set, byUID bool) []member {
	lastN, lastUID := s.last()
	return slices.DeleteFunc(s.members(), func(m member) bool {
		if byUID {
			return !seq.Has(set, m.uid, lastUID)
		}
		return !seq.Has(set, m.n, lastN)
	})
}

// last tells the last sequence number and the greatest UID of the list.
func (s *Session) last() (n, uid int64) {
	n = int64(s.box.list.Len())
	uid, _ = s.box.list.UID(n)
	return n, uid
}

func idsOf(l []member) []int64 {
	var ids []int64
	for _, m := range l {
		ids = append(ids, m.id)
	}
	return ids
}

// mail tells all that is known of a message.
func (s *Session) mail(m member) find.Mail {
	w := s.post.World()
	msg, _ := w.Msg(m.id)
	thread, _ := w.Thread(m.id)
	lastN, lastUID := s.last()
	return find.Mail{
		N: m.n, UID: m.uid, LastN: lastN, LastUID: lastUID, ID: m.id, Thread: thread,
		Unix: msg.Unix, Body: msg.Body, Flags: msg.Flags, Labels: w.Of(m.id),
	}
}

// has tells whether a message has a flag.
func (s *Session) has(id int64, f string) bool {
	msg, _ := s.post.World().Msg(id)
	return flag.Has(msg.Flags, f)
}

// close leaves the mailbox after its messages with the flag \Deleted have been removed.
func (s *Session) close() ([]string, bool) {
	if !s.box.readOnly {
		if _, ok := s.expunge(); !ok {
			return nil, false
		}
	}
	s.leave()
	return nil, true
}

func (s *Session) expunge() ([]string, bool) {
	l := slices.DeleteFunc(s.members(), func(m member) bool { return !s.has(m.id, deleted) })
	o := view.Op{Kind: opTake, Name: s.box.name, IDs: idsOf(l)}
	if o.Name == every {
		o = view.Op{Kind: opDrop, IDs: o.IDs}
	}
	return nil, s.do(o)
}

func (s *Session) search(args []find.Word, byUID bool) (job, bool) {
	key, err := find.Parse(args)
	return job{run: func() ([]string, bool) {
		line := "* SEARCH"
		for _, m := range s.members() {
			if !find.Is(key, s.mail(m)) {
				continue
			}
			n := m.n
			if byUID {
				n = m.uid
			}
			line += " " + decimal(n)
		}
		return []string{line}, true
	}}, err == api.OK
}

func (s *Session) fetch(args []find.Word, byUID bool) (job, bool) {
	if len(args) != 2 {
		return job{}, false
	}
	set, ok := setOf(args[0])
	items, err := resp.Items(args[1])
	if !ok || err != api.OK {
		return job{}, false
	}
	if byUID && !slices.ContainsFunc(items, func(x resp.Item) bool { return x.Kind == itemUID }) {
		items = slices.Insert(items, 0, resp.Item{Kind: itemUID})
	}
	return job{run: func() ([]string, bool) {
		sees := resp.Sees(items) && !s.box.readOnly
		var lines []string
		for _, m := range s.pick(set, byUID) {
			if sees && !s.see(m) {
				return lines, false
			}
			lines = append(lines, s.fetched(m, items))
		}
		return lines, true
	}}, true
}

func (s *Session) fetched(m member, items []resp.Item) string {
	return "* " + decimal(m.n) + " FETCH " + resp.Fetch(items, s.mail(m))
}

// see adds the flag \Seen to a message that does not have it.
func (s *Session) see(m member) bool {
	return s.has(m.id, seen) || s.setFlags(m, func(f flag.Set) flag.Set {
		return flag.Add(f, flag.Of(seen))
	})
}

// setFlags changes the flags of a message.
func (s *Session) setFlags(m member, change func(f flag.Set) flag.Set) bool {
	msg, _ := s.post.World().Msg(m.id)
	return s.do(view.Op{Kind: opFlags, IDs: []int64{m.id}, Flags: change(msg.Flags)})
}

func (s *Session) copyTo(args []find.Word, byUID bool) (job, bool) {
	if len(args) != 2 {
		return job{}, false
	}
	set, okSet := setOf(args[0])
	l, okName := names(args[1:], 1)
	return job{run: func() ([]string, bool) {
		return nil, s.do(view.Op{Kind: opAdd, Name: l[0], IDs: idsOf(s.pick(set, byUID))})
	}}, okSet && okName
}

// store plans STORE for flags and for labels.
func (s *Session) store(args []find.Word, byUID bool) (job, bool) {
	if len(args) != 3 || !plain(args[1]) || !args[2].IsList {
		return job{}, false
	}
	set, ok := setOf(args[0])
	if !ok {
		return job{}, false
	}
	how, silent := strings.CutSuffix(octet.Fold(args[1].Text), ".silent")
	switch how {
	case "flags", "+flags", "-flags":
		return s.storeFlags(set, byUID, how, silent, args[2])
	case "+x-gm-labels":
		return s.storeLabels(set, byUID, opAdd, args[2].List)
	case "-x-gm-labels":
		return s.storeLabels(set, byUID, opTake, args[2].List)
	}
	return job{}, false
}

func (s *Session) storeFlags(set seq.Set, byUID bool, how string, silent bool, w find.Word) (job, bool) {
	given, ok := flagsOf(w)
	change := func(f flag.Set) flag.Set {
		switch how[0] {
		case '+':
			return flag.Add(f, given)
		case '-':
			return flag.Less(f, given)
		}
		return given
	}
	items := []resp.Item{{Kind: itemFlags}}
	if byUID {
		items = []resp.Item{{Kind: itemUID}, {Kind: itemFlags}}
	}
	return job{writes: true, run: func() ([]string, bool) {
		var lines []string
		for _, m := range s.pick(set, byUID) {
			if !s.setFlags(m, change) {
				return lines, false
			}
			if !silent {
				lines = append(lines, s.fetched(m, items))
			}
		}
		return lines, true
	}}, ok
}

func (s *Session) storeLabels(set seq.Set, byUID bool, kind int, l []find.Word) (job, bool) {
	labels, ok := names(l, len(l))
	return job{writes: true, run: func() ([]string, bool) {
		ids := idsOf(s.pick(set, byUID))
		for _, name := range labels {
			if !s.do(view.Op{Kind: kind, Name: name, IDs: ids}) {
				return nil, false
			}
		}
		return nil, true
	}}, ok
}
