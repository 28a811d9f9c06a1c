package find

import (
	"slices"
	"strings"

	"franking/flag"
	"franking/head"
	"franking/octet"
	"franking/seq"
)

const daySecs = 86400

// Mail is a message, as it stands in a label.
type Mail struct {
	N, UID, LastN, LastUID, ID, Thread, Unix int64
	Body                                     []byte
	Flags                                    flag.Set
	Labels                                   []string
}

// Is tells whether a key holds for a message.
func Is(k Key, m Mail) bool { return holds(&k, &m) }

func holds(k *Key, m *Mail) bool {
	switch k.Kind {
	case every:
		return true
	case flagged:
		return flag.Has(m.Flags, k.Text)
	case unflagged:
		return !flag.Has(m.Flags, k.Text)
	case keyword:
		return flag.Has(m.Flags, k.Text) != (k.Num == 1)
	case field:
		value, ok := head.Get(m.Body, k.Name)
		return ok && contains(value, k.Text)
	case content:
		return contains(string(searched(k, m)), k.Text)
	case size:
		return compareSize(k, m)
	case day:
		return compareDay(k, m)
	case uidSet:
		return seq.Has(k.Set, m.UID, m.LastUID)
	case numSet:
		return seq.Has(k.Set, m.N, m.LastN)
	case not:
		return len(k.Kids) == 1 && !holds(&k.Kids[0], m)
	case or:
		return len(k.Kids) == 2 && (holds(&k.Kids[0], m) || holds(&k.Kids[1], m))
	case group:
		return allHold(k.Kids, m)
	case label:
		return slices.Contains(m.Labels, k.Text)
	case number:
		return k.Num == numberOf(k, m)
	}
	return false
}

func allHold(l []Key, m *Mail) bool {
	for i := range l {
		if !holds(&l[i], m) {
			return false
		}
	}
	return true
}

// contains tells whether x occurs in s, in any case.
func contains(s, x string) bool { return strings.Contains(octet.Fold(s), octet.Fold(x)) }

// searched tells the bytes of a message in which a key looks for its text.
func searched(k *Key, m *Mail) []byte {
	if k.Num == 1 {
		return m.Body
	}
	_, body := head.Split(m.Body)
	return m.Body[body:]
}

func compareSize(k *Key, m *Mail) bool {
	n := int64(len(m.Body))
	if k.Name == "<" {
		return n < k.Num
	}
	return n > k.Num
}

func compareDay(k *Key, m *Mail) bool {
	n := m.Unix / daySecs
	if m.Unix%daySecs < 0 {
		n--
	}
	switch k.Name {
	case "<":
		return n < k.Num
	case "=":
		return n == k.Num
	case ">":
		return n >= k.Num
	}
	return false
}

func numberOf(k *Key, m *Mail) int64 {
	if k.Name == "t" {
		return m.Thread
	}
	return m.ID
}
