package server

import (
	"slices"

	"franking/api"
	"franking/cmd"
	"franking/queue"
	"franking/sess"
)

// client is a session with the bytes that come from it and go to it.
type client struct {
	session *sess.Session // nil while it is closed
	chunks  *queue.Queue
	in      []byte // the bytes that were received and are not answered yet
	asked   int    // how many of them there were when the last literal was asked for
	out     []byte
}

func (c *client) open() bool { return c.session != nil }

// close closes the session; what it was sent can still be told.
func (c *client) close() { *c = client{out: c.out} }

// arrive puts bytes into the queue.
func (c *client) arrive(b []byte) api.Errno {
	switch {
	case c.chunks.Len() >= api.MaxQueue:
		return api.EFULL
	case len(b) > api.MaxLine:
		return api.EARG
	}
	c.chunks.Put(b)
	return api.OK
}

func (c *client) send(lines []string) {
	for _, line := range lines {
		c.out = append(c.out, line+crlf...)
	}
}

// answer executes the command that has been received, if there is one, and tells the lines of its
// response.
func (c *client) answer() (lines []string, ok bool) {
	command, n, err := cmd.Parse(c.in)
	switch err {
	case api.OK:
		lines = c.session.Do(command)
	case api.EFORM, api.ELIMIT:
		lines = []string{"* BAD"}
	default:
		return nil, false
	}
	c.in = slices.Clone(c.in[n:])
	c.asked = 0
	return lines, true
}

// mustAsk tells whether the bytes of a literal are to be asked for, once for each literal.
func (c *client) mustAsk() bool {
	if len(c.in) == c.asked || !cmd.Wants(c.in) {
		return false
	}
	c.asked = len(c.in)
	return true
}
