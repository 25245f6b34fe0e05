package row_test

import (
	"bytes"
	"math"
	"strings"
	"testing"

	"dolmen/api"
	"dolmen/code"
	"dolmen/row"
)

// numbers are such as code lays, and some that it takes for the nearest of these.
func numbers() []int {
	l := []int{-1, math.MinInt, math.MaxInt, 1<<62 - 1}
	for bits := range 62 {
		l = append(l, 1<<bits-1, 1<<bits, 1<<bits+1)
	}
	return l
}

// TestPut (P2.1, P2.2): what is laid is what package code lays, behind what is there.
func TestPut(t *testing.T) {
	for _, out := range [][]byte{nil, {}, []byte("ahead"), make([]byte, 3, 100)} {
		for _, n := range numbers() {
			if got, want := row.PutNum(out, n), code.PutNum(out, n); !bytes.Equal(got, want) {
				t.Errorf("PutNum(%q, %d): % x, want % x", out, n, got, want)
			}
		}
		for _, n := range []int{0, 1, 2, 127, 128, 1000, 1 << 14} {
			s := strings.Repeat("\xff", n)
			if got, want := row.PutText(out, s), code.PutText(out, s); !bytes.Equal(got, want) {
				t.Errorf("PutText(%q, %d bytes): % x, want % x", out, n, got, want)
			}
		}
	}
}

// TestPutInPlace: what is there is not copied where there is room behind it, so that a long row costs no more than its length.
func TestPutInPlace(t *testing.T) {
	room := make([]byte, 1, 100)
	if n, s := row.PutNum(room, 300), row.PutText(room[:4], "ab"); &n[0] != &room[0] || string(s[4:]) != "\x02ab" || string(room[:7]) != "\x00\xac\x02\x00\x02ab" {
		t.Errorf("% x, % x, % x", n, s, room[:7])
	}
}

// TestTake (P2.4): what was laid is taken in its order, whatever it is; then the row is at its end.
func TestTake(t *testing.T) {
	b := []byte{7}
	for _, n := range numbers() {
		b = row.PutNum(b, n)
	}
	b = append(row.PutText(row.PutText(b, ""), "text\x00"), "bytes"...)
	r := row.Of(b)
	if c, left := r.Byte(), r.Left(); c != 7 || left != len(b)-1 {
		t.Errorf("Byte: %d, %d left", c, left)
	}
	for _, n := range numbers() {
		want := max(0, min(n, 1<<62-1))
		if got := r.Num(want); got != want {
			t.Errorf("Num: %d, want %d", got, want)
		}
	}
	if s, u := r.Text(0), r.Text(5); s != "" || u != "text\x00" {
		t.Errorf("Text: %q, %q", s, u)
	}
	if left, err := r.Left(), r.End(); left != 5 || err != api.ErrCorrupt {
		t.Errorf("ahead of the end: %d left, %v", left, err)
	}
	if none, rest := r.Bytes(0), r.Bytes(5); len(none) != 0 || string(rest) != "bytes" {
		t.Errorf("Bytes: %q, %q", none, rest)
	}
	if left, err := r.Left(), r.End(); left != 0 || err != api.OK {
		t.Errorf("at the end: %d left, %v", left, err)
	}
}

// mustBreak holds that a row breaks at one call, which answers nothing, and that nothing can be taken from it any more.
func mustBreak(t *testing.T, b []byte, name string, take func(r *row.Row) bool) {
	t.Helper()
	r := row.Of(b)
	if !take(r) {
		t.Errorf("%s of %.50q answered something", name, b)
	}
	if n, s, c, p := r.Num(math.MaxInt), r.Text(math.MaxInt), r.Byte(), r.Bytes(0); n != 0 || s != "" || c != 0 || len(p) != 0 {
		t.Errorf("behind %s of %.50q: %d, %q, %d, %q", name, b, n, s, c, p)
	}
	if left, err := r.Left(), r.End(); left != 0 || err != api.ErrCorrupt {
		t.Errorf("behind %s of %.50q: %d left, %v", name, b, left, err)
	}
}

// TestBreak (P2.1, P2.2): a number that code does not take, or that is above what may be; fewer bytes than are asked for.
func TestBreak(t *testing.T) {
	noNum := func(most int) func(r *row.Row) bool { return func(r *row.Row) bool { return r.Num(most) == 0 } }
	noText := func(most int) func(r *row.Row) bool { return func(r *row.Row) bool { return r.Text(most) == "" } }
	noBytes := func(n int) func(r *row.Row) bool { return func(r *row.Row) bool { return r.Bytes(n) == nil } }
	for _, b := range [][]byte{nil, {}, {128}, {128, 0}, {255, 255, 255, 255, 255, 255, 255, 255, 255}, {255, 255, 255, 255, 255, 255, 255, 255, 255, 1}, {255, 255, 255, 255, 255, 255, 255, 255, 64}, {128, 128, 128}} {
		mustBreak(t, b, "Num", noNum(math.MaxInt))
		mustBreak(t, b, "Text", noText(math.MaxInt))
	}
	mustBreak(t, []byte{5, 0, 0, 0}, "Num above most", noNum(4))
	mustBreak(t, []byte{0, 0, 0, 0}, "Num above most", noNum(-1))
	mustBreak(t, []byte{172, 2, 0, 0}, "Num above most", noNum(299))
	mustBreak(t, []byte("\x02ab and more"), "Text above most", noText(1))
	mustBreak(t, []byte("\x00ab and more"), "Text above most", noText(-1))
	mustBreak(t, []byte("\x03ab"), "Text", noText(3))
	mustBreak(t, []byte("\xff\xff\xff\xff\xff\xff\xff\xff\x3fab"), "Text", noText(math.MaxInt))
	for _, n := range []int{4, 5, -1, math.MinInt, math.MaxInt} {
		mustBreak(t, []byte("abc"), "Bytes", noBytes(n))
	}
	mustBreak(t, nil, "Byte", func(r *row.Row) bool { return r.Byte() == 0 })
	mustBreak(t, []byte("\x01\x02\x03"), "Break", func(r *row.Row) bool { r.Break(); return true })
	mustBreak(t, []byte("\x01"), "Byte, and Break at the end", func(r *row.Row) bool { r.Byte(); r.Break(); return true })
}

// TestPiece: bytes that are taken are a piece of the row's, without the room behind them; a text is new memory.
func TestPiece(t *testing.T) {
	b := []byte("ab\x02cd")
	r := row.Of(b)
	p, s := r.Bytes(2), r.Text(2)
	if &p[0] != &b[0] || cap(p) != 2 || s != "cd" {
		t.Errorf("%q of room %d, %q", p, cap(p), s)
	}
	clear(b)
	if s != "cd" {
		t.Errorf("the text was turned: %q", s)
	}
}
