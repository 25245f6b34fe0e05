package code_test

import (
	"bytes"
	"encoding/binary"
	"math"
	"slices"
	"strings"
	"testing"

	"dolmen/api"
	"dolmen/code"
)

const (
	mostNum  = 1<<62 - 1
	leastInt = -1 << 61
	mostInt  = 1<<61 - 1
)

// behind is what stands behind a number or a text in these tests: nothing, and bytes that could be taken for more of it.
var behind = [][]byte{nil, {0}, {127}, {128}, {255, 255}, []byte("what stands behind")}

// plainNum is P2.1 by the library's own numbers.
func plainNum(n int) []byte {
	return binary.AppendUvarint(nil, uint64(max(0, min(n, mostNum))))
}

// plainTake is P2.1 back: the number and how many bytes it has, 0 if there is none.
func plainTake(b []byte) (int, int) {
	n, size := binary.Uvarint(b)
	if size <= 0 || n > mostNum || !bytes.Equal(binary.AppendUvarint(nil, n), b[:size]) {
		return 0, 0
	}
	return int(n), size
}

// numbers are the ends of each number of groups, what lies beside them, and numbers between them; all may be.
func numbers() []int {
	l := []int{300, 1000, 1 << 20, 1 << 40}
	for bits := range 63 {
		for _, n := range []int{1<<bits - 2, 1<<bits - 1, 1 << bits, 1<<bits + 1, 5 << bits / 4} {
			if n >= 0 && n <= mostNum {
				l = append(l, n)
			}
		}
	}
	return l
}

// row is n bytes that no short period repeats.
func row(n int) []byte {
	b := make([]byte, n)
	for i := range b {
		b[i] = byte(7*i + i/256 + 3)
	}
	return b
}

// join is rows behind each other, in new memory.
func join(rows ...[]byte) []byte { return bytes.Join(rows, nil) }

// mustRefuse holds that bytes are refused as a number, an int and a text, with nothing beside the error.
func mustRefuse(t *testing.T, b []byte) {
	t.Helper()
	if n, rest, e := code.TakeNum(b); n != 0 || rest != nil || e != api.ErrCorrupt {
		t.Errorf("TakeNum(% x): %d, % x, %v", b, n, rest, e)
	}
	if n, rest, e := code.TakeInt(b); n != 0 || rest != nil || e != api.ErrCorrupt {
		t.Errorf("TakeInt(% x): %d, % x, %v", b, n, rest, e)
	}
	mustRefuseText(t, b, math.MaxInt)
}

// mustRefuseText holds that bytes are refused as a text, with nothing beside the error.
func mustRefuseText(t *testing.T, b []byte, most int) {
	t.Helper()
	if s, rest, e := code.TakeText(b, most); s != "" || rest != nil || e != api.ErrCorrupt {
		t.Errorf("TakeText(% x, %d): %q, % x, %v", b, most, s, rest, e)
	}
}

// TestPutNumKnown (P2.1): rows that were worked out by hand from the document's words.
func TestPutNumKnown(t *testing.T) {
	known := []struct {
		n   int
		row string
	}{
		{0, "\x00"},
		{1, "\x01"},
		{127, "\x7f"},
		{128, "\x80\x01"},
		{129, "\x81\x01"},
		{300, "\xac\x02"},
		{16383, "\xff\x7f"},
		{16384, "\x80\x80\x01"},
		{1<<21 - 1, "\xff\xff\x7f"},
		{1 << 21, "\x80\x80\x80\x01"},
		{1 << 40, "\x80\x80\x80\x80\x80\x20"},
		{1<<56 - 1, "\xff\xff\xff\xff\xff\xff\xff\x7f"},
		{1 << 56, "\x80\x80\x80\x80\x80\x80\x80\x80\x01"},
		{mostNum - 1, "\xfe\xff\xff\xff\xff\xff\xff\xff\x3f"},
		{mostNum, "\xff\xff\xff\xff\xff\xff\xff\xff\x3f"},
		{mostNum + 1, "\xff\xff\xff\xff\xff\xff\xff\xff\x3f"},
		{math.MaxInt, "\xff\xff\xff\xff\xff\xff\xff\xff\x3f"},
		{-1, "\x00"},
		{-128, "\x00"},
		{leastInt, "\x00"},
		{math.MinInt, "\x00"},
	}
	for _, k := range known {
		if got := code.PutNum(nil, k.n); string(got) != k.row {
			t.Errorf("PutNum(, %d): % x, want % x", k.n, got, k.row)
		}
	}
}

// TestPutNumGroups (P2.1): as few groups as there can be, one at least.
func TestPutNumGroups(t *testing.T) {
	for groups := 1; groups <= 9; groups++ {
		first, last := 1<<(7*(groups-1)), 1<<min(7*groups, 62)-1
		if groups == 1 {
			first = 0
		}
		for _, n := range []int{first, last} {
			if got := len(code.PutNum(nil, n)); got != groups {
				t.Errorf("PutNum(, %d) has %d groups, want %d", n, got, groups)
			}
		}
	}
}

// TestPutNumPlain (P2.1): numbers of all sizes, behind nothing and behind bytes.
func TestPutNumPlain(t *testing.T) {
	for _, n := range numbers() {
		for _, ahead := range behind {
			if got, want := code.PutNum(ahead, n), join(ahead, plainNum(n)); !bytes.Equal(got, want) {
				t.Errorf("PutNum(% x, %d): % x, want % x", ahead, n, got, want)
			}
		}
	}
}

// TestTakeNum (P2.1, P2.4): what was put is taken as it was, with what stands behind it.
func TestTakeNum(t *testing.T) {
	for _, n := range numbers() {
		for _, tail := range behind {
			got, rest, e := code.TakeNum(join(code.PutNum(nil, n), tail))
			if got != n || !bytes.Equal(rest, tail) || e != api.OK {
				t.Errorf("TakeNum of %d, % x behind it: %d, % x, %v", n, tail, got, rest, e)
			}
		}
	}
}

// TestTakeNumWrong (P2.1): what does not begin with what PutNum lays is ErrCorrupt.
func TestTakeNumWrong(t *testing.T) {
	for _, s := range []string{
		"", "\x80", "\xff", "\x80\x80", "\xff\xff\xff\xff\xff\xff\xff\xff", // end within a number
		"\x80\x00", "\xff\x00", "\x80\x80\x00", "\x81\x80\x00", "\x80\x00\x01", // a last group of 0 behind others
		"\xff\xff\xff\xff\xff\xff\xff\xff\x00", "\x80\x80\x80\x80\x80\x80\x80\x80\x00",
		"\x80\x80\x80\x80\x80\x80\x80\x80\x40", "\xff\xff\xff\xff\xff\xff\xff\xff\x7f", // above 2^62 - 1
		"\x80\x80\x80\x80\x80\x80\x80\x80\x80\x01", "\xff\xff\xff\xff\xff\xff\xff\xff\xff\x01",
		"\x80\x80\x80\x80\x80\x80\x80\x80\x80\x00", "\x80\x80\x80\x80\x80\x80\x80\x80\x80\x02",
	} {
		mustRefuse(t, []byte(s))
	}
	mustRefuse(t, nil)
	mustRefuse(t, bytes.Repeat([]byte{128}, 5000))
	mustRefuse(t, append(bytes.Repeat([]byte{255}, 5000), 1))
	mustRefuse(t, append(bytes.Repeat([]byte{128}, 64), 1)) // so many groups that their bits would come round
	for _, n := range numbers() {
		b := code.PutNum(nil, n)
		for i := range b {
			mustRefuse(t, b[:i])
		}
		longer := join(b, []byte{0})
		longer[len(b)-1] |= 128
		mustRefuse(t, longer)
	}
}

// TestTakeNumShort (P2.1, P2.4): all rows of one and two bytes, and many of three: no other bytes say the same.
func TestTakeNumShort(t *testing.T) {
	seen := map[int]string{}
	check := func(b ...byte) {
		n, size := plainTake(b)
		if size == 0 {
			mustRefuse(t, b)
			return
		}
		got, rest, e := code.TakeNum(b)
		if got != n || !bytes.Equal(rest, b[size:]) || e != api.OK {
			t.Errorf("TakeNum(% x): %d, % x, %v", b, got, rest, e)
		}
		said := string(b[:len(b)-len(rest)])
		if s, ok := seen[n]; ok && s != said {
			t.Errorf("% x and % x both say %d", s, said, n)
		}
		seen[n] = said
	}
	for i := range 256 {
		check(byte(i))
		for j := range 256 {
			check(byte(i), byte(j))
			for _, k := range []byte{0, 1, 63, 64, 127, 128, 255} {
				check(byte(i), byte(j), k)
			}
		}
	}
}

// TestTakeNumLastGroup (P2.1): of nine groups the last one is 1 to 63, whatever stands behind it.
func TestTakeNumLastGroup(t *testing.T) {
	for _, c := range []byte{128, 255} {
		for last := range 256 {
			for _, tail := range behind {
				b := join(bytes.Repeat([]byte{c}, 8), []byte{byte(last)}, tail)
				if last == 0 || last > 63 {
					mustRefuse(t, b)
					continue
				}
				n, size := plainTake(b)
				if got, rest, e := code.TakeNum(b); got != n || size != 9 || !bytes.Equal(rest, tail) || e != api.OK {
					t.Errorf("TakeNum(% x): %d, % x, %v", b, got, rest, e)
				}
			}
		}
	}
}

// texts are an empty one, and ones whose lengths are ends of numbers of groups.
func texts() []string {
	l := []string{"", "\x00", "ab", "\x80", "\xff\xff", "é", "no digits, \n but a line's end"}
	for _, n := range []int{126, 127, 128, 129, 16383, 16384, api.MaxBytes} {
		l = append(l, string(row(n)))
	}
	return l
}

// TestPutText (P2.2): PutNum of the length, in bytes, and the bytes.
func TestPutText(t *testing.T) {
	if got := code.PutText(nil, "ab"); string(got) != "\x02ab" {
		t.Errorf("PutText(, ab): % x", got)
	}
	if got := code.PutText([]byte("x"), "é"); string(got) != "x\x02\xc3\xa9" {
		t.Errorf("PutText(x, é): % x", got)
	}
	if got := code.PutText(nil, ""); string(got) != "\x00" {
		t.Errorf("PutText of an empty text: % x", got)
	}
	for _, s := range texts() {
		for _, ahead := range behind {
			if got, want := code.PutText(ahead, s), join(ahead, plainNum(len(s)), []byte(s)); !bytes.Equal(got, want) {
				t.Errorf("PutText behind % x of %d bytes", ahead, len(s))
			}
		}
	}
}

// TestTakeText (P2.2, P2.4): what was put is taken as it was, with what stands behind it, if it is not longer than most.
func TestTakeText(t *testing.T) {
	for _, s := range texts() {
		for _, tail := range behind {
			b := join(code.PutText(nil, s), tail)
			for _, most := range []int{len(s), len(s) + 1, math.MaxInt} {
				got, rest, e := code.TakeText(b, most)
				if got != s || !bytes.Equal(rest, tail) || e != api.OK {
					t.Errorf("TakeText of %d bytes, at most %d, % x behind it: %d bytes, % x, %v", len(s), most, tail, len(got), rest, e)
				}
			}
		}
	}
}

// TestTakeTextWrong (P2.2): a length above most, and fewer bytes than it says.
func TestTakeTextWrong(t *testing.T) {
	for _, s := range texts() {
		b := code.PutText(nil, s)
		for _, most := range []int{len(s) - 1, len(s) / 2, 0, -1, math.MinInt} {
			if most < len(s) {
				mustRefuseText(t, b, most)
				mustRefuseText(t, join(b, row(40)), most)
			}
		}
		for _, short := range []int{1, 2, 5, len(s)} {
			if short > 0 && short <= len(s) {
				mustRefuseText(t, b[:len(b)-short], math.MaxInt)
				mustRefuseText(t, b[:len(b)-short], len(s))
			}
		}
	}
	for _, n := range []int{4, 128, 1 << 31, 1 << 32, 1 << 61, mostNum} { // lengths that are far from what is there
		mustRefuseText(t, join(plainNum(n), []byte("abc")), n)
		mustRefuseText(t, join(plainNum(n), []byte("abc")), math.MaxInt)
	}
	mustRefuseText(t, []byte("\x83\x00abc"), 3)
	mustRefuseText(t, nil, 0)
	mustRefuseText(t, []byte{0}, -1)
}

// TestPutIntKnown (P2.3): rows that were worked out by hand from the document's words.
func TestPutIntKnown(t *testing.T) {
	known := []struct {
		n   int
		row string
	}{
		{0, "\x00"},
		{-1, "\x01"},
		{1, "\x02"},
		{-2, "\x03"},
		{63, "\x7e"},
		{-64, "\x7f"},
		{64, "\x80\x01"},
		{-65, "\x81\x01"},
		{150, "\xac\x02"},
		{mostInt - 1, "\xfc\xff\xff\xff\xff\xff\xff\xff\x3f"},
		{mostInt, "\xfe\xff\xff\xff\xff\xff\xff\xff\x3f"},
		{mostInt + 1, "\xfe\xff\xff\xff\xff\xff\xff\xff\x3f"},
		{mostNum, "\xfe\xff\xff\xff\xff\xff\xff\xff\x3f"},
		{math.MaxInt, "\xfe\xff\xff\xff\xff\xff\xff\xff\x3f"},
		{leastInt + 1, "\xfd\xff\xff\xff\xff\xff\xff\xff\x3f"},
		{leastInt, "\xff\xff\xff\xff\xff\xff\xff\xff\x3f"},
		{leastInt - 1, "\xff\xff\xff\xff\xff\xff\xff\xff\x3f"},
		{-1 << 62, "\xff\xff\xff\xff\xff\xff\xff\xff\x3f"},
		{math.MinInt, "\xff\xff\xff\xff\xff\xff\xff\xff\x3f"},
	}
	for _, k := range known {
		for _, ahead := range behind {
			if got := code.PutInt(ahead, k.n); !bytes.Equal(got, join(ahead, []byte(k.row))) {
				t.Errorf("PutInt(% x, %d): % x, want % x behind it", ahead, k.n, got, k.row)
			}
		}
	}
}

// TestTakeInt (P2.3, P2.4): numbers on both sides of 0 come back, with what stands behind them.
func TestTakeInt(t *testing.T) {
	for _, m := range numbers() {
		if m > mostInt {
			continue
		}
		for _, n := range []int{m, -m, -m - 1} {
			want := uint64(2 * n)
			if n < 0 {
				want = uint64(-2*n - 1)
			}
			b := code.PutInt(nil, n)
			if !bytes.Equal(b, binary.AppendUvarint(nil, want)) {
				t.Errorf("PutInt(, %d): % x", n, b)
			}
			for _, tail := range behind {
				if got, rest, e := code.TakeInt(join(b, tail)); got != n || !bytes.Equal(rest, tail) || e != api.OK {
					t.Errorf("TakeInt of %d, % x behind it: %d, % x, %v", n, tail, got, rest, e)
				}
			}
		}
	}
}

// TestOneRow (P2.4): what can be taken is what would be put: no other bytes say the same.
func TestOneRow(t *testing.T) {
	check := func(b []byte) {
		if n, rest, e := code.TakeNum(b); e == api.OK && !bytes.Equal(join(code.PutNum(nil, n), rest), b) {
			t.Errorf("TakeNum(% x) is %d", b, n)
		}
		if n, rest, e := code.TakeInt(b); e == api.OK && !bytes.Equal(join(code.PutInt(nil, n), rest), b) {
			t.Errorf("TakeInt(% x) is %d", b, n)
		}
		if s, rest, e := code.TakeText(b, 9); e == api.OK && !bytes.Equal(join(code.PutText(nil, s), rest), b) {
			t.Errorf("TakeText(% x) is %q", b, s)
		}
	}
	for i := range 1 << 16 {
		high, low := byte(i>>8), byte(i)
		check([]byte{high, low})
		check([]byte{high, low, 1, 2, 3})
		check([]byte{128, high, 255, low, 128, 1})
		check([]byte{255, 255, 255, 255, 255, 255, 255, high, low})
	}
}

// TestRow (P2.4): many things behind each other are taken in their order.
func TestRow(t *testing.T) {
	var b []byte
	for _, n := range numbers() {
		b = code.PutText(code.PutInt(code.PutNum(b, n), -n/2), string(plainNum(n)))
	}
	for _, n := range numbers() {
		var got, half int
		var s string
		var e api.Errno
		if got, b, e = code.TakeNum(b); got != n || e != api.OK {
			t.Fatalf("TakeNum: %d, %v, want %d", got, e, n)
		}
		if half, b, e = code.TakeInt(b); half != -n/2 || e != api.OK {
			t.Fatalf("TakeInt: %d, %v, want %d", half, e, -n/2)
		}
		if s, b, e = code.TakeText(b, 9); s != string(plainNum(n)) || e != api.OK {
			t.Fatalf("TakeText: %q, %v, want % x", s, e, plainNum(n))
		}
	}
	if len(b) != 0 {
		t.Errorf("% x is left", b)
	}
}

// answers are the bytes that each call answers of b.
func answers(b []byte) [][]byte {
	_, num, _ := code.TakeNum(b)
	_, text, _ := code.TakeText(b, math.MaxInt)
	_, whole, _ := code.TakeInt(b)
	return [][]byte{num, text, whole, code.PutNum(b, 300), code.PutText(b, "text"), code.PutInt(b, -300)}
}

// fill lays c all over a row, and over the room behind it.
func fill(b []byte, c byte) {
	b = b[:cap(b)]
	for i := range b {
		b[i] = c
	}
}

// TestHandedIn (R3): what is handed in is as it was, the room behind it, too; no answer shares memory with it or with another answer.
func TestHandedIn(t *testing.T) {
	for _, s := range []string{"\x03abcdef", "\x00", "\x00\x01", "\x06abcdef", "\x80", "", "\x81\x01" + strings.Repeat("x", 200)} {
		room := join([]byte(s), row(100))
		b := room[:len(s)]
		got := answers(b)
		if !bytes.Equal(room, join([]byte(s), row(100))) {
			t.Errorf("%q was changed", s)
		}
		want := make([][]byte, len(got))
		for i := range got {
			want[i] = slices.Clone(got[i])
		}
		fill(room, 170)
		for i := range got {
			if !bytes.Equal(got[i], want[i]) {
				t.Errorf("answer %d of %q shares what was handed in", i, s)
			}
		}
		for i := range got {
			fill(got[i], byte(i))
			for j := i + 1; j < len(got); j++ {
				if !bytes.Equal(got[j], want[j]) {
					t.Errorf("answers %d and %d of %q share memory", i, j, s)
				}
			}
		}
		if !bytes.Equal(room, bytes.Repeat([]byte{170}, len(room))) {
			t.Errorf("an answer of %q shares what was handed in", s)
		}
	}
}

// TestTextKept (R3): a text that was taken stays as it was when the bytes turn.
func TestTextKept(t *testing.T) {
	b := []byte("\x03abc")
	s, _, e := code.TakeText(b, 3)
	fill(b, 'x')
	if s != "abc" || e != api.OK {
		t.Errorf("TakeText: %q, %v", s, e)
	}
}

// TestAllEnd (P1): every call ends and none panics, whatever it is given.
func TestAllEnd(t *testing.T) {
	ends := []int{math.MinInt, leastInt - 1, leastInt, -1, 0, 1, 127, 128, mostInt, mostInt + 1, mostNum, mostNum + 1, math.MaxInt}
	rows := [][]byte{nil, {}, {0}, {128}, {255}, []byte("\x03ab"), bytes.Repeat([]byte{255}, 300), make([]byte, 300)}
	for _, n := range ends {
		rows = append(rows, code.PutNum(nil, n), code.PutInt(nil, n))
	}
	for _, b := range rows {
		for _, n := range ends {
			if !bytes.HasPrefix(code.PutNum(b, n), b) || !bytes.HasPrefix(code.PutInt(b, n), b) {
				t.Errorf("% x is not ahead of %d", b, n)
			}
			if s, rest, e := code.TakeText(b, n); e == api.OK && len(s) > n || e != api.OK && (e != api.ErrCorrupt || s != "" || rest != nil) {
				t.Errorf("TakeText(% x, %d): %q, % x, %v", b, n, s, rest, e)
			}
		}
		if n, _, e := code.TakeNum(b); n < 0 || n > mostNum || e != api.OK && e != api.ErrCorrupt {
			t.Errorf("TakeNum(% x): %d, %v", b, n, e)
		}
		if n, _, e := code.TakeInt(b); n < leastInt || n > mostInt || e != api.OK && e != api.ErrCorrupt {
			t.Errorf("TakeInt(% x): %d, %v", b, n, e)
		}
	}
}
