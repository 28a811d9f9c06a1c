package cmd

import (
	"strings"

	"franking/api"
	"franking/find"
	"franking/octet"
)

const (
	maxWords  = 1000
	maxDigits = 10
)

// parser reads a command byte by byte. When one of its methods returns an error other than EMORE,
// at is the byte that the error was found at.
type parser struct {
	b     []byte
	at    int
	line  int // where the line begins
	words int
	depth int
	asked int // where the bytes of the last literal {n} begin
}

func (p *parser) command() (c Cmd, err api.Errno) {
	if c.Tag, err = p.tag(); err != api.OK {
		return Cmd{}, err
	}
	name, err := p.name()
	if err != api.OK {
		return Cmd{}, err
	}
	c.Name = upper(name)
	c.Args, err = p.rest('\r')
	if err != api.OK {
		return Cmd{}, err
	}
	return c, p.expect('\n')
}

// tag reads the tag and the space behind it.
func (p *parser) tag() (string, api.Errno) {
	for {
		c, err := p.look()
		if err != api.OK {
			return "", err
		}
		if !tagByte(c) {
			break
		}
		p.at++
	}
	if p.at == 0 {
		return "", api.EFORM
	}
	// Go does not order the reading of at among calls, and expect moves it.
	text := string(p.b[:p.at])
	return text, p.expect(' ')
}

// name reads the first word, which must be plain.
func (p *parser) name() (string, api.Errno) {
	p.words++
	return p.plain()
}

// rest reads words, each behind a space, up to the byte that ends them.
func (p *parser) rest(end byte) ([]find.Word, api.Errno) {
	var l []find.Word
	for {
		c, err := p.look()
		if err != api.OK {
			return nil, err
		}
		if c != end && c != ' ' {
			return nil, api.EFORM
		}
		p.at++
		if c == end {
			return l, api.OK
		}
		w, err := p.word()
		if err != api.OK {
			return nil, err
		}
		l = append(l, w)
	}
}

func (p *parser) word() (find.Word, api.Errno) {
	c, err := p.look()
	if err != api.OK {
		return find.Word{}, err
	}
	if p.words == maxWords {
		return find.Word{}, api.ELIMIT
	}
	p.words++
	var w find.Word
	switch c {
	case '"':
		w.Quoted = true
		w.Text, err = p.quoted()
	case '{':
		w.Quoted = true
		w.Text, err = p.literal()
	case '(':
		w.IsList = true
		w.List, err = p.list()
	default:
		w.Text, err = p.plain()
	}
	if err != api.OK {
		return find.Word{}, err
	}
	return w, api.OK
}

func (p *parser) plain() (string, api.Errno) {
	from := p.at
	for {
		c, err := p.look()
		if err != api.OK {
			return "", err
		}
		if !plainByte(c) && p.at == from {
			return "", api.EFORM
		}
		if !plainByte(c) {
			return string(p.b[from:p.at]), api.OK
		}
		p.at++
		if c != '[' {
			continue
		}
		if err := p.section(); err != api.OK {
			return "", err
		}
	}
}

// section reads what follows a bracket, up to the one that closes it.
func (p *parser) section() api.Errno {
	for {
		c, err := p.look()
		if err != api.OK {
			return err
		}
		if c == '\r' || c == '\n' {
			return api.EFORM
		}
		p.at++
		if c == ']' {
			return api.OK
		}
	}
}

func (p *parser) quoted() (string, api.Errno) {
	from := p.at
	p.at++
	for escaped := false; ; p.at++ {
		c, err := p.look()
		switch {
		case err != api.OK:
			return "", err
		case escaped && c != '"' && c != '\\', c == 0, c == '\r', c == '\n', c > 127:
			return "", api.EFORM
		case c == '"' && !escaped:
			p.at++
			text, _, err := octet.Unquote(string(p.b[from:p.at]))
			return text, err
		}
		escaped = c == '\\' && !escaped
	}
}

func (p *parser) literal() (string, api.Errno) {
	n, waits, err := p.count()
	if err != api.OK {
		return "", err
	}
	if p.at < len(p.b) && p.b[p.at] == '\n' && n > api.MaxLiteral {
		p.at-- // to where the CRLF begins
		return "", api.ELIMIT
	}
	if err := p.expect('\n'); err != api.OK {
		return "", err
	}
	if waits {
		p.asked = p.at
	}
	if int64(len(p.b)-p.at) < n {
		return "", api.EMORE
	}
	text := string(p.b[p.at : p.at+int(n)])
	p.at += int(n)
	p.line = p.at
	return text, api.OK
}

// count reads {n} or {n+} and the CR behind it; the sender waits after {n}.
func (p *parser) count() (n int64, waits bool, err api.Errno) {
	p.at++
	from := p.at
	for p.at-from < maxDigits {
		c, err := p.look()
		if err != api.OK {
			return 0, false, err
		}
		if c < '0' || c > '9' {
			break
		}
		p.at++
	}
	n, ok := octet.Num(string(p.b[from:p.at]))
	if !ok {
		return 0, false, api.EFORM
	}
	waits = p.expect('+') != api.OK
	if err := p.expect('}'); err != api.OK {
		return 0, false, err
	}
	return n, waits, p.expect('\r')
}

func (p *parser) list() ([]find.Word, api.Errno) {
	if p.depth == api.MaxDepth {
		return nil, api.ELIMIT
	}
	p.at++
	c, err := p.look()
	if err != api.OK {
		return nil, err
	}
	if c == ')' {
		p.at++
		return nil, api.OK
	}
	p.depth++
	first, err := p.word()
	if err != api.OK {
		return nil, err
	}
	others, err := p.rest(')')
	if err != api.OK {
		return nil, err
	}
	p.depth--
	return append([]find.Word{first}, others...), api.OK
}

func (p *parser) expect(want byte) api.Errno {
	c, err := p.look()
	if err != api.OK {
		return err
	}
	if c != want {
		return api.EFORM
	}
	p.at++
	return api.OK
}

// look tells the next byte of the line, if it has arrived and the line is not too long for it.
func (p *parser) look() (byte, api.Errno) {
	if p.at == len(p.b) {
		return 0, api.EMORE
	}
	if p.at-p.line >= api.MaxLine && !p.ending() {
		return 0, api.ELIMIT
	}
	return p.b[p.at], api.OK
}

// ending tells whether the next byte belongs to a CRLF, which is not counted among the bytes of its line.
// A CR that nothing has followed yet is taken for one, as its LF may still arrive.
func (p *parser) ending() bool {
	if p.b[p.at] == '\n' {
		return p.b[p.at-1] == '\r'
	}
	next := p.b[p.at:min(p.at+len(crlf), len(p.b))]
	return strings.HasPrefix(crlf, string(next))
}

func visible(c byte) bool { return 33 <= c && c <= 126 }

func tagByte(c byte) bool { return visible(c) && strings.IndexByte("(){%*\"\\+", c) < 0 }

func plainByte(c byte) bool { return visible(c) && strings.IndexByte("(){\"", c) < 0 }

func upper(s string) string {
	b := []byte(s)
	for i, c := range b {
		if 'a' <= c && c <= 'z' {
			b[i] = c - ('a' - 'A')
		}
	}
	return string(b)
}
