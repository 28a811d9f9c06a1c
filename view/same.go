package view

import (
	"bytes"
	"maps"
	"slices"

	"franking/head"
)

// Same tells whether two Worlds cannot be distinguished, now or later.
func Same(a, b *World) bool {
	return a.validity == b.validity && sameLabels(a, b) && sameMails(a, b) && sameFuture(a, b)
}

func sameLabels(a, b *World) bool {
	return maps.EqualFunc(a.labels, b.labels, func(l, m *Label) bool {
		return l.Name == m.Name && l.Validity == m.Validity && l.Next == m.Next && l.Sub == m.Sub && slices.Equal(l.Rows, m.Rows)
	})
}

func sameMails(a, b *World) bool {
	ids := a.mails.All()
	if !slices.Equal(ids, b.mails.All()) {
		return false
	}
	for _, id := range ids {
		m, _ := a.Msg(id)
		n, _ := b.Msg(id)
		s, _ := a.Thread(id)
		t, _ := b.Thread(id)
		if s != t || m.Unix != n.Unix || !bytes.Equal(m.Body, n.Body) || !slices.Equal(m.Flags.L, n.Flags.L) {
			return false
		}
	}
	return true
}

// sameFuture tells whether messages that are delivered later will get the same IDs and threads.
func sameFuture(a, b *World) bool {
	// Without a UID in the label of all messages, none can ever be delivered.
	if a.labels[all].free() < 1 && b.labels[all].free() < 1 {
		return true
	}
	return a.mails.Next() == b.mails.Next() && maps.Equal(a.refs, b.refs)
}

// follow brings refs up to date with a message that was added.
func (w *World) follow(id int64, body []byte) {
	now, _ := w.Thread(id)
	joined := map[int64]int{}
	for _, ref := range references(body) {
		if before, ok := w.refs[ref]; ok && before != now {
			joined[before]++
		}
		w.refs[ref] = now
	}
	if len(joined) == 0 {
		return
	}
	var moved []string
	for ref, thread := range w.refs {
		if _, ok := joined[thread]; ok {
			moved = append(moved, ref)
		}
	}
	for _, ref := range moved {
		w.refs[ref] = now
	}
}

// references tells by what package thread connects a message with others.
func references(body []byte) []string {
	var l []string
	for _, name := range []string{"Message-ID", "In-Reply-To", "References"} {
		value, _ := head.Get(body, name)
		ids := head.IDs(value)
		if name == "Message-ID" {
			ids = ids[:min(len(ids), 1)]
		}
		l = append(l, ids...)
	}
	return l
}
