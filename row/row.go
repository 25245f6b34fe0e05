// Package row lays numbers and texts behind bytes, and takes them one by one, as package code has them. What code lays and takes must be new memory each time, with all that stands ahead or behind; here nothing is copied but what is asked for, so that long rows cost no more than their length.
package row

import (
	"dolmen/api"
	"dolmen/code"
)

// mostSize is how many bytes a number has at most.
const mostSize = 9

// Row is what is still to be taken. Where something can't be taken it breaks: that, and all that is taken later, is a zero value, so that it is enough to ask End.
type Row struct {
	rest   []byte
	broken bool
}

// PutNum lays a number behind out, in place if there is room.
func PutNum(out []byte, n int) []byte { return append(out, code.PutNum(nil, n)...) }

// PutText lays a text likewise.
func PutText(out []byte, s string) []byte { return append(PutNum(out, len(s)), s...) }

// Of is a row of these bytes; they stay the caller's.
func Of(b []byte) *Row { return &Row{rest: b} }

// Num takes a number of at most most.
func (r *Row) Num(most int) int {
	head := r.rest[:min(len(r.rest), mostSize)]
	n, behind, err := code.TakeNum(head)
	if err != api.OK || n > most {
		r.Break()
		return 0
	}
	r.rest = r.rest[len(head)-len(behind):]
	return n
}

// Bytes takes n bytes: a piece of what Of was given.
func (r *Row) Bytes(n int) []byte {
	if n < 0 || n > len(r.rest) {
		r.Break()
		return nil
	}
	piece := r.rest[:n:n]
	r.rest = r.rest[n:]
	return piece
}

// Byte takes one byte.
func (r *Row) Byte() byte {
	if b := r.Bytes(1); b != nil {
		return b[0]
	}
	return 0
}

// Text takes a text of at most most bytes.
func (r *Row) Text(most int) string { return string(r.Bytes(r.Num(most))) }

// Left is how many bytes are still to be taken: none of a row that is broken.
func (r *Row) Left() int { return len(r.rest) }

// Break is for who has taken what may not be.
func (r *Row) Break() { r.rest, r.broken = nil, true }

// End is ErrCorrupt, unless all could be taken, and nothing is left.
func (r *Row) End() api.Errno {
	if r.broken || len(r.rest) > 0 {
		return api.ErrCorrupt
	}
	return api.OK
}
