package view

import (
	"bytes"

	"franking/api"
)

// The limits of what Encode writes.
const (
	maxIDs       = 1000
	maxNameBytes = 1000
	maxFlags     = 30
	maxFlagBytes = 255
)

// Encode writes an operation.
func Encode(o Op) []byte {
	if !encodable(o) {
		return nil
	}
	b := []byte{byte(o.Kind)}
	b = appendText(b, o.Name, 2)
	b = appendText(b, o.To, 2)
	b = appendNumber(b, int64(len(o.IDs)), 2)
	for _, id := range o.IDs {
		b = appendNumber(b, id, 8)
	}
	b = appendText(b, string(o.Body), 4)
	b = appendNumber(b, o.Unix, 8)
	b = appendNumber(b, o.Num, 8)
	b = appendNumber(b, int64(len(o.Flags.L)), 1)
	for _, s := range o.Flags.L {
		b = appendText(b, s, 1)
	}
	return b
}

// Decode reads what Encode wrote.
func Decode(b []byte) (Op, api.Errno) {
	r := reader{rest: b}
	var o Op
	o.Kind = int(r.number(1))
	o.Name = string(r.text(2))
	o.To = string(r.text(2))
	for range r.number(2) {
		o.IDs = append(o.IDs, r.number(8))
	}
	o.Body = bytes.Clone(r.text(4))
	o.Unix = r.number(8)
	o.Num = r.number(8)
	for range r.number(1) {
		o.Flags.L = append(o.Flags.L, string(r.text(1)))
	}
	if r.short || !encodable(o) || !bytes.Equal(Encode(o), b) {
		return Op{}, api.EFORM
	}
	return o, api.OK
}

func encodable(o Op) bool {
	if o.Kind < deliver || o.Kind > setNext || len(o.IDs) > maxIDs || len(o.Name) > maxNameBytes || len(o.To) > maxNameBytes {
		return false
	}
	if len(o.Body) > api.MaxMessage || len(o.Flags.L) > maxFlags {
		return false
	}
	for _, s := range o.Flags.L {
		if len(s) > maxFlagBytes {
			return false
		}
	}
	return true
}

// appendNumber writes a number in many bytes, the most significant one first.
func appendNumber(b []byte, n int64, many int) []byte {
	for i := many - 1; i >= 0; i-- {
		b = append(b, byte(n>>(8*i)))
	}
	return b
}

// appendText writes a text behind its length, which takes many bytes.
func appendText(b []byte, s string, many int) []byte {
	return append(appendNumber(b, int64(len(s)), many), s...)
}

// reader reads what stands in an encoding, one after the other.
type reader struct {
	rest  []byte
	short bool // whether the bytes did not suffice
}

func (r *reader) take(many int64) []byte {
	if r.short || many > int64(len(r.rest)) {
		r.short = true
		return nil
	}
	b := r.rest[:many]
	r.rest = r.rest[many:]
	return b
}

func (r *reader) number(many int64) int64 {
	var n int64
	for _, c := range r.take(many) {
		n = n<<8 | int64(c)
	}
	return n
}

func (r *reader) text(many int64) []byte { return r.take(r.number(many)) }
