package sess

import (
	"strings"

	"franking/api"
	"franking/find"
	"franking/flag"
	"franking/octet"
	"franking/seq"
	"franking/utf7"
)

func plain(w find.Word) bool { return !w.IsList && !w.Quoted }

func quoted(w find.Word) bool { return !w.IsList && w.Quoted }

// texts tells the texts of words, if there are as many as wanted and none is a list.
func texts(args []find.Word, many int) ([]string, bool) {
	if len(args) != many {
		return nil, false
	}
	var l []string
	for _, w := range args {
		if w.IsList {
			return nil, false
		}
		l = append(l, w.Text)
	}
	return l, true
}

// names tells the mailbox names that words denote, if there are as many as wanted.
func names(args []find.Word, many int) ([]string, bool) {
	l, ok := texts(args, many)
	if !ok {
		return nil, false
	}
	for i, s := range l {
		name, err := utf7.Decode(s)
		if err != api.OK {
			return nil, false
		}
		l[i] = name
	}
	return l, true
}

// shown writes a mailbox name as LIST does.
func shown(name string) string {
	text, _ := utf7.Encode(name)
	return octet.NString(text)
}

// flagsOf reads a list of flags.
func flagsOf(w find.Word) (flag.Set, bool) {
	var l []string
	for _, v := range w.List {
		// flag.Parse would take a word with a space for two.
		if !plain(v) || !flag.Good(v.Text) {
			return flag.Set{}, false
		}
		l = append(l, v.Text)
	}
	f, err := flag.Parse("(" + strings.Join(l, " ") + ")")
	return f, w.IsList && err == api.OK
}

func setOf(w find.Word) (seq.Set, bool) {
	set, err := seq.Parse(w.Text)
	return set, plain(w) && err == api.OK
}

// upper writes the letters a to z in capitals.
func upper(s string) string {
	b := []byte(s)
	for i, c := range b {
		if 'a' <= c && c <= 'z' {
			b[i] = c - ('a' - 'A')
		}
	}
	return string(b)
}
