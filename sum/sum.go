// Package sum is layer 1, a hash of 256 bits: see shared/doc/01-sum.md.
package sum

import (
	"math/bits"
	"strings"

	"dolmen/api"
)

const (
	words      = 8 // of a state, and of a block
	wordSize   = 4 // bytes
	blockSize  = words * wordSize
	lengthSize = 8 // bytes that tell how many were given
	rounds     = 8
	seed       = 0x9E3779B9
	factor     = 0x85EBCA6B
	digits     = "0123456789abcdef"
)

// block is what is taken at once.
type block [words]uint32

// state is what all blocks so far have made.
type state [words]uint32

// Run is bytes that are given one after the other.
type Run struct {
	count uint64          // of the bytes that were given
	state state           // behind all whole blocks; start's as long as count is 0
	rest  [blockSize]byte // at its beginning, what is not a whole block yet
}

// New is a run that was given nothing.
func New() *Run { return &Run{} }

// Add gives it more bytes.
func (r *Run) Add(b []byte) {
	if r == nil {
		return
	}
	if r.count == 0 { // only here, so that a zero Run is as one of New
		r.state = start()
	}
	for len(b) > 0 {
		n := copy(r.rest[r.count%blockSize:], b)
		b = b[n:]
		r.count += uint64(n)
		if r.count%blockSize == 0 {
			r.state = r.state.take(blockOf(r.rest))
		}
	}
}

// End is the hash of all that it was given.
func (r *Run) End() string {
	if r == nil {
		return Sum(nil)
	}
	closed := *r // a copy is closed, so that the run itself can be given more
	closed.Add(tail(closed.count))
	return closed.state.text()
}

// Sum is the hash of bytes.
func Sum(b []byte) string {
	r := New()
	r.Add(b)
	return r.End()
}

// start is the state ahead of all blocks.
func start() state {
	var s state
	for i := range s {
		s[i] = uint32(i+1) * seed
	}
	return s
}

// take is the state behind one more block; both arrays are copies, the caller's stay as they are.
func (s state) take(b block) state {
	for r := range rounds {
		for i := range s {
			turned := bits.RotateLeft32(s[i]^b[(i+r)%words], 5+3*i)
			s[i] = turned + s[(i+1)%words]*factor + uint32(i+r)
		}
	}
	return s
}

// text is the state's bytes, word by word, the least byte first.
func (s state) text() string {
	b := make([]byte, 0, blockSize)
	for _, w := range s {
		b = append(b, byte(w), byte(w>>8), byte(w>>16), byte(w>>24))
	}
	return string(b)
}

// blockOf is bytes as words, the least byte first.
func blockOf(p [blockSize]byte) block {
	var b block
	for i := range b {
		q := p[wordSize*i:]
		b[i] = uint32(q[0]) | uint32(q[1])<<8 | uint32(q[2])<<16 | uint32(q[3])<<24
	}
	return b
}

// tail is what closes n bytes: a 1 and noughts, so that their number ends a block, and one block of noughts behind it.
func tail(n uint64) []byte {
	noughts := (blockSize - (n+1+lengthSize)%blockSize) % blockSize
	t := make([]byte, 1+noughts, 1+noughts+lengthSize+blockSize)
	t[0] = 1
	for i := range lengthSize {
		t = append(t, byte(n>>(8*i)))
	}
	return append(t, make([]byte, blockSize)...)
}

// Hex is an id as digits.
func Hex(id string) string {
	s := make([]byte, 0, 2*len(id))
	for i := range len(id) {
		s = append(s, digits[id[i]>>4], digits[id[i]&15])
	}
	return string(s)
}

// Unhex is the id of digits.
func Unhex(s string) (string, api.Errno) {
	if len(s)%2 != 0 {
		return "", api.ErrArg
	}
	id := make([]byte, 0, len(s)/2)
	for i := 0; i < len(s); i += 2 {
		high, low := strings.IndexByte(digits, s[i]), strings.IndexByte(digits, s[i+1])
		if high < 0 || low < 0 {
			return "", api.ErrArg
		}
		id = append(id, byte(high<<4|low))
	}
	return string(id), api.OK
}
