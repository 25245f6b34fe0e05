package press_test

import (
	"bytes"
	"encoding/binary"
	"math"
	"strconv"
	"strings"
	"testing"

	"dolmen/api"
	"dolmen/press"
)

const (
	window = api.Window
	longer = 259 // the most bytes of a copy
)

// num is a number as layer 2 lays it, by the library's own numbers.
func num(n int) []byte { return binary.AppendUvarint(nil, uint64(n)) }

// join is rows behind each other, in new memory.
func join(rows ...[]byte) []byte { return bytes.Join(rows, nil) }

// run is the token of a run.
func run(s string) []byte { return join(num(2*(len(s)-1)), []byte(s)) }

// back is the token of a copy.
func back(n, distance int) []byte { return join(num(2*(n-4)+1), num(distance)) }

// pressed is a length and tokens.
func pressed(n int, tokens ...[]byte) []byte { return join(num(n), join(tokens...)) }

// plainPress is P3.1 word for word: every place in reach is held against every other one.
func plainPress(b []byte) []byte {
	out, passed := num(len(b)), 0
	for i := 0; i < len(b); {
		best, at := 0, 0
		for k := i - 1; k >= 0 && i-k <= 4096; k-- {
			n := 0
			for n < 259 && i+n < len(b) && b[k+n] == b[i+n] {
				n++
			}
			if n > best {
				best, at = n, k
			}
		}
		if best < 4 {
			i++
			continue
		}
		if passed < i {
			out = join(out, run(string(b[passed:i])))
		}
		out = join(out, back(best, i-at))
		i += best
		passed = i
	}
	if passed < len(b) {
		out = join(out, run(string(b[passed:])))
	}
	return out
}

// dice is a row of numbers that is the same in each run of the tests.
type dice uint64

// below is the next number, below n.
func (d *dice) below(n int) int {
	*d = *d*6364136223846793005 + 1442695040888963407
	return int(uint64(*d)>>33) % n
}

// apart is n bytes, at most 32768, none of them a letter's, no four of which stand there twice.
func apart(n int) string {
	b := make([]byte, 0, n+1)
	for i := 0; len(b) < n; i++ {
		b = append(b, byte(128+i/64), byte(i%64))
	}
	return string(b[:n])
}

// letters is n bytes, at most 1040, all of them letters, no four of which stand there twice.
func letters(n int) string {
	b := make([]byte, 0, n+1)
	for i := 0; len(b) < n; i++ {
		b = append(b, byte('a'+i/20), byte('A'+i%20))
	}
	return string(b[:n])
}

// mixed is n bytes of so many different ones.
func mixed(n, different int, seed dice) []byte {
	b := make([]byte, n)
	for i := range b {
		b[i] = byte(seed.below(different))
	}
	return b
}

// patched is n bytes that are pieces of what stood ahead of them, some of them far ahead, with new bytes between them.
func patched(n int, seed dice) []byte {
	b := mixed(8, 4, seed)
	for len(b) < n {
		from := max(0, len(b)-1-seed.below(2*window))
		for range 1 + seed.below(400) {
			b = append(b, b[from])
			from++
		}
		for range seed.below(6) {
			b = append(b, byte(seed.below(4)))
		}
	}
	return b[:n]
}

// stairs are runs of one byte, each of another length, with another byte behind each: many places with one beginning, and long copies.
func stairs(n int, seed dice) []byte {
	b := make([]byte, 0, n+300)
	for len(b) < n {
		b = append(append(b, make([]byte, seed.below(120))...), 1)
	}
	return b[:n]
}

// rows are of all kinds and of many lengths, so short that plainPress can take them.
func rows() [][]byte {
	var l [][]byte
	for n := range 40 {
		l = append(l, make([]byte, n), []byte(apart(n)), mixed(n, 2, dice(n)))
	}
	for i, n := range []int{100, 257, 258, 259, 260, 261, 1000, 4095, 4096, 4097, 4100, 9000, 13000} {
		seed := dice(1000 + i)
		l = append(l, make([]byte, n), []byte(apart(n)), patched(n, seed), stairs(n, seed))
		for _, different := range []int{2, 3, 7, 16, 40, 256} {
			l = append(l, mixed(n, different, seed))
		}
		l = append(l, bytes.Repeat([]byte(apart(77)), n/77), bytes.Repeat([]byte("ab"), n/2))
	}
	return l
}

// greatRows are as long as a file may be.
func greatRows() [][]byte {
	return [][]byte{
		make([]byte, api.MaxBytes),
		mixed(api.MaxBytes, 2, 1),
		mixed(api.MaxBytes, 16, 2),
		mixed(api.MaxBytes, 256, 3),
		patched(api.MaxBytes, 4),
		stairs(api.MaxBytes, 5),
		bytes.Repeat([]byte(apart(window)), api.MaxBytes/window),
		bytes.Repeat([]byte("0123abcd4567efgh"), api.MaxBytes/16),
	}
}

// told is a row in a test's message, the beginning of a long one.
func told(b []byte) string {
	return strconv.Quote(string(b[:min(len(b), 40)])) + " (" + strconv.Itoa(len(b)) + " bytes)"
}

// mustPress holds that b is pressed to want, and opened again.
func mustPress(t *testing.T, b, want []byte) {
	t.Helper()
	if got := press.Press(b); !bytes.Equal(got, want) {
		t.Errorf("Press of %s: % x, want % x", told(b), got[:min(len(got), 60)], want[:min(len(want), 60)])
	}
	mustOpen(t, want, b)
}

// mustOpen holds that p opens to b, with room for just as many bytes and for more, and that less room is refused.
func mustOpen(t *testing.T, p, b []byte) {
	t.Helper()
	for _, most := range []int{len(b), len(b) + 1, 2 * api.MaxBytes, math.MaxInt} {
		if got, e := press.Open(p, most); !bytes.Equal(got, b) || e != api.OK {
			t.Errorf("Open of %s, at most %d: %s, %v", told(p), most, told(got), e)
		}
	}
	for _, most := range []int{len(b) - 1, len(b) / 2, 0, -1, math.MinInt} {
		if most < len(b) {
			mustRefuse(t, p, most)
		}
	}
}

// mustRefuse holds that p is ErrCorrupt, and nothing beside it.
func mustRefuse(t *testing.T, p []byte, most int) {
	t.Helper()
	if got, e := press.Open(p, most); got != nil || e != api.ErrCorrupt {
		t.Errorf("Open of %s, at most %d: %s, %v", told(p), most, told(got), e)
	}
}

// TestPressKnown (P3.1): rows that were worked out by hand from the document's words.
func TestPressKnown(t *testing.T) {
	known := []struct{ b, row string }{
		{"", "\x00"},
		{"a", "\x01\x00a"},
		{"ab", "\x02\x02ab"},
		{"aaa", "\x03\x04aaa"},
		{"aaaa", "\x04\x06aaaa"},
		{"aaaaa", "\x05\x00a\x01\x01"},
		{"aaaaaaaa", "\x08\x00a\x07\x01"},
		{"\x02\x00", "\x02\x02\x02\x00"},
		{"abababab", "\x08\x02ab\x05\x02"},
		{"abcdabcd", "\x08\x06abcd\x01\x04"},
		{"abcdabcde", "\x09\x06abcd\x01\x04\x00e"},
		{"abcdXabcd", "\x09\x08abcdX\x01\x05"},
		{"abcXabcY", "\x08\x0eabcXabcY"},
		{"abcXabc", "\x07\x0cabcXabc"},
	}
	for _, k := range known {
		mustPress(t, []byte(k.b), []byte(k.row))
	}
}

// TestPressPlain (P3.1): rows of all kinds, held against the document's words.
func TestPressPlain(t *testing.T) {
	for _, b := range rows() {
		mustPress(t, b, plainPress(b))
	}
}

// TestPressShort (P3.1): all rows of up to eight bytes, each of them one of three.
func TestPressShort(t *testing.T) {
	for n, count := 0, 1; n <= 8; n, count = n+1, 3*count {
		for i := range count {
			b := make([]byte, n)
			for k := range b {
				b[k] = byte('a' + i%3)
				i /= 3
			}
			mustPress(t, b, plainPress(b))
		}
	}
}

// TestCopyLengths (P3.1): a copy has 4 to 259 bytes; of a longer likeness the rest is another copy, if it is long enough.
func TestCopyLengths(t *testing.T) {
	for _, n := range []int{1, 3, 4, 5, 258, 259, 260, 262, 263, 2*longer - 1, 2 * longer, 2*longer + 1, 2*longer + 4} {
		like := apart(600)[:n]
		var copies []byte
		rest := n
		for rest >= 4 {
			copies = join(copies, back(min(rest, longer), n+1))
			rest -= min(rest, longer)
		}
		ahead, b := run(like+"x"), like+"x"+like
		if n < 4 {
			mustPress(t, []byte(b), pressed(len(b), run(b)))
			mustPress(t, []byte(b+"y"), pressed(len(b)+1, run(b+"y")))
			continue
		}
		behind := like[n-rest:] + "y"
		mustPress(t, []byte(b+"y"), pressed(len(b)+1, ahead, copies, run(behind)))
		if rest == 0 { // no run at the end
			mustPress(t, []byte(b), pressed(len(b), ahead, copies))
		} else {
			mustPress(t, []byte(b), pressed(len(b), ahead, copies, run(like[n-rest:])))
		}
	}
}

// TestCopyBeyond (P3.1): a copy may reach beyond its own place, at most 259 bytes far.
func TestCopyBeyond(t *testing.T) {
	for period := 1; period <= 300; period++ {
		start := apart(period)
		for _, n := range []int{3, 4, 5, 258, 259, 260} {
			b := strings.Repeat(start, 2+n/period)[:period+n]
			switch {
			case n < 4:
				mustPress(t, []byte(b), pressed(len(b), run(b)))
			case n == 260:
				mustPress(t, []byte(b), pressed(len(b), run(start), back(259, period), run(b[len(b)-1:])))
			default:
				mustPress(t, []byte(b), pressed(len(b), run(start), back(n, period)))
			}
		}
	}
}

// TestWindow (P3.1): a place just Window ahead is in reach, one just one more is not, whatever length its copy had.
func TestWindow(t *testing.T) {
	for _, n := range []int{4, 10, longer} {
		for _, distance := range []int{n + 1, window - 1, window, window + 1, window + 2} {
			ahead := letters(n) + apart(distance-n)
			b := ahead + letters(n)
			if distance <= window {
				mustPress(t, []byte(b), pressed(len(b), run(ahead), back(n, distance)))
			} else {
				mustPress(t, []byte(b), pressed(len(b), run(b)))
			}
		}
	}
}

// TestWindowLonger (P3.1): of a longer copy that is in reach and a shorter one that is nearer the longer one is told; out of reach it is as if it were not there.
func TestWindowLonger(t *testing.T) {
	const first, second = "abcdefgh", "abcdXefgh"
	for _, distance := range []int{window - 1, window, window + 1} {
		ahead := first + apart(distance-len(first)-len(second))
		b := ahead + second + first
		want := pressed(len(b), run(ahead), back(4, len(ahead)), run("X"), back(4, len(ahead)+1))
		if distance <= window {
			want = join(want, back(8, distance))
		} else {
			want = join(want, back(4, 9), back(4, 8))
		}
		mustPress(t, []byte(b), want)
	}
}

// TestWindowLeft (P3.1): four bytes stand there again and again, and their last place is about to leave reach, or has left it.
func TestWindowLeft(t *testing.T) {
	filler := apart(32768)
	for _, gap := range []int{window / 4, window / 2, window - 1, window, window + 1, window + 4} {
		var b string
		for i := range 7 {
			b += "abcd" + filler[i*gap:][:gap-4]
		}
		want := pressed(len(b), run(b))
		if gap <= window {
			want = plainPress([]byte(b))
		}
		mustPress(t, []byte(b), want)
	}
}

// TestNearest (P3.1): of several copies of the greatest length the nearest is told; a longer one that is farther is told ahead of a nearer one.
func TestNearest(t *testing.T) {
	known := []struct {
		b    string
		want []byte
	}{
		{"abcdWabcdXabcdY", join(run("abcdW"), back(4, 5), run("X"), back(4, 5), run("Y"))},
		{"abcdeWabcdXabcde", join(run("abcdeW"), back(4, 6), run("X"), back(5, 11))},
		{"abcdeWabcdeXabcdYabcde", join(run("abcdeW"), back(5, 6), run("X"), back(4, 6), run("Y"), back(5, 11))},
		{"abcdWabcdeXabcdeYabcde", join(run("abcdW"), back(4, 5), run("eX"), back(5, 6), run("Y"), back(5, 6))},
		{"abcdefWabcdXabcdeYabcdefg", join(run("abcdefW"), back(4, 7), run("X"), back(5, 12), run("Y"), back(6, 18), run("g"))},
	}
	for _, k := range known {
		mustPress(t, []byte(k.b), pressed(len(k.b), k.want))
	}
	like := apart(300) // two places that have more bytes alike than a copy can
	b := like + "W" + like + "X" + like[:longer]
	want := join(run(like+"W"), back(longer, 301), back(41, 301), run("X"), back(longer, 301))
	mustPress(t, []byte(b), pressed(len(b), want))
}

// TestPassedOver (P3.1): a copy is not put off for a longer one that would begin behind.
func TestPassedOver(t *testing.T) {
	b := "abcdW" + "bcdefghi" + "X" + "abcdefghi"
	mustPress(t, []byte(b), pressed(len(b), run("abcdWbcdefghiX"), back(4, 14), back(5, 10)))
	b = "abcdefgh" + "W" + "abcXefgh" + "Y"
	mustPress(t, []byte(b), pressed(len(b), run("abcdefghWabcX"), back(4, 9), run("Y")))
}

// TestLongRuns (P3.1): runs whose lengths take one, two and three groups.
func TestLongRuns(t *testing.T) {
	for _, n := range []int{1, 2, 63, 64, 65, 66, 127, 128, 129, 8191, 8192, 8193, 8194, 16384, 32768} {
		mustPress(t, []byte(apart(n)), pressed(n, run(apart(n))))
	}
}

// TestOpenOther (P3.2): tokens may be parted otherwise than Press does.
func TestOpenOther(t *testing.T) {
	like := strings.Repeat("a", 300)
	far := apart(window) + "xyz"
	for _, k := range []struct {
		b      string
		tokens []byte
	}{
		{"aaaaaaaa", run("aaaaaaaa")},
		{"aaaaaaaa", join(run("aa"), run("aa"), run("aaaa"))},
		{"aaaaaaaa", join(run("aa"), back(6, 1))},
		{"aaaaaaaa", join(run("aa"), back(6, 2))},
		{"aaaaaaaa", join(run("aaaa"), back(4, 4))},
		{"aaaaaaaa", join(run("aaa"), back(4, 3), run("a"))},
		{"aaaaaaaaa", join(run("a"), back(4, 1), back(4, 5))},
		{"abcabcabcx", join(run("abc"), back(6, 3), run("x"))},
		{"abcabcabcx", join(run("abca"), back(5, 3), run("x"))},
		{"abcd", join(run("a"), run("b"), run("c"), run("d"))},
		{like, join(run("a"), back(259, 1), back(40, 260))},
		{like, join(run("a"), back(258, 1), back(41, 259))},
		{like, run(like)},
		{far + far[3:7], join(run(far), back(4, window))},
		{far + far[4:8], join(run(far[:100]), run(far[100:]), back(4, window-1))},
	} {
		mustOpen(t, pressed(len(k.b), k.tokens), []byte(k.b))
	}
	mustOpen(t, num(0), nil)
}

// TestOpenCut (P3.2): bytes that end within the length, within a token or within a run, and ahead of the length's end.
func TestOpenCut(t *testing.T) {
	for _, b := range rows() {
		p := press.Press(b)
		for n := max(0, len(p)-600); n < len(p); n++ {
			mustRefuse(t, p[:n], math.MaxInt)
		}
		for n := range min(len(p), 600) {
			mustRefuse(t, p[:n], math.MaxInt)
		}
	}
	mustRefuse(t, nil, 0)
	mustRefuse(t, nil, math.MaxInt)
	mustRefuse(t, []byte{}, 100)
}

// TestOpenLength (P3.2): a length that is no number, above most, more and less than what the tokens tell.
func TestOpenLength(t *testing.T) {
	for _, s := range []string{"\x80", "\x80\x00", "\x81\x00", "\xff\xff\xff\xff\xff\xff\xff\xff\x40", strings.Repeat("\xff", 9) + "\x01"} {
		mustRefuse(t, []byte(s), math.MaxInt)
		mustRefuse(t, join([]byte(s), run("a")), math.MaxInt)
	}
	for _, k := range []struct {
		size   int
		tokens []byte
	}{
		{0, nil},
		{1, run("a")},
		{7, run("abcdefg")},
		{7, join(run("ab"), back(5, 2))},
		{7, join(run("ab"), back(4, 2), run("x"))},
	} {
		for _, n := range []int{0, 1, 2, 3, 4, 5, 6, 7, 8, 20, api.MaxBytes, 1 << 32, 1 << 40, 1<<62 - 1} {
			if n != k.size {
				mustRefuse(t, pressed(n, k.tokens), math.MaxInt)
				mustRefuse(t, pressed(n, k.tokens), 100)
			}
		}
		mustRefuse(t, pressed(k.size, k.tokens, []byte{0}), math.MaxInt) // bytes behind that are no token
		mustRefuse(t, pressed(k.size, k.tokens, []byte{128}), math.MaxInt)
		mustRefuse(t, pressed(k.size, k.tokens, back(4, 1)), math.MaxInt)
	}
}

// TestOpenRun (P3.2): runs that are none, have fewer bytes than they say, or more than the length.
func TestOpenRun(t *testing.T) {
	mustRefuse(t, pressed(3, []byte("\x80\x00abc")), 100) // two groups say what one says
	mustRefuse(t, pressed(3, []byte("\x84\x00abc")), 100)
	mustRefuse(t, pressed(3, []byte("\x06abc")), 100)
	mustRefuse(t, pressed(4, []byte("\x06abc")), 100)
	mustRefuse(t, pressed(2, []byte("\x04abc")), 100)
	mustRefuse(t, pressed(4, run("ab"), run("abc")), 100)
	for _, n := range []int{1 << 20, 1 << 31, 1 << 32, 1 << 61, 1<<62 - 2} { // runs that are far from what is there
		mustRefuse(t, pressed(3, num(n), []byte("abc")), math.MaxInt)
		mustRefuse(t, pressed(1<<62-1, num(n), []byte("abc")), math.MaxInt)
	}
	mustRefuse(t, pressed(3, []byte("\xff\xff\xff\xff\xff\xff\xff\xff\x7eabc")), 100)
}

// TestOpenCopy (P3.2): copies whose distance or length may not be, or that tell more than the length.
func TestOpenCopy(t *testing.T) {
	for _, there := range []int{0, 1, 5, 100, window - 1, window, window + 1, window + 5} {
		var ahead []byte
		if there > 0 {
			ahead = run(apart(there))
		}
		distances := []int{0, 1, 2, there - 1, there, there + 1, window - 1, window, window + 1, 1 << 31, 1 << 32, 1<<62 - 1}
		for _, d := range distances {
			if d < 0 {
				continue
			}
			for _, n := range []int{4, 5, 258, 259, 260, 261, 515, 1 << 32, 1 << 60} {
				p := pressed(there+min(n, 1000), ahead, back(n, d))
				if d == 0 || d > there || d > window || n > longer {
					mustRefuse(t, p, math.MaxInt)
					mustRefuse(t, p, there+min(n, 1000))
					continue
				}
				b := []byte(apart(there))
				for range n {
					b = append(b, b[len(b)-d])
				}
				mustOpen(t, p, b)
				mustRefuse(t, pressed(there+n-1, ahead, back(n, d)), math.MaxInt)
				mustRefuse(t, pressed(there+n+1, ahead, back(n, d)), math.MaxInt)
			}
		}
	}
	mustRefuse(t, pressed(8, run("abcd"), []byte("\x01")), 100) // a copy without a distance
	mustRefuse(t, pressed(8, run("abcd"), []byte("\x01\x84")), 100)
	mustRefuse(t, pressed(8, run("abcd"), []byte("\x01\x84\x00")), 100)
	mustRefuse(t, pressed(8, run("abcd"), []byte("\x81\x00\x04")), 100)
	mustRefuse(t, pressed(8, run("abcd"), []byte("\xff\xff\xff\xff\xff\xff\xff\xff\x3f\x04")), 100)
	mustRefuse(t, pressed(100, run("abcd"), []byte("\x01\xff\xff\xff\xff\xff\xff\xff\xff\x7f")), 100)
}

// TestOpenOfPress (P3.3): Open of Press is the bytes, up to the longest file.
func TestOpenOfPress(t *testing.T) {
	for _, b := range greatRows() {
		mustOpen(t, press.Press(b), b)
	}
}

// TestPressGreat (P3.1): in long rows, too, each token is the one that the document's words ask for; plainPress takes just their beginnings in good time.
func TestPressGreat(t *testing.T) {
	for _, b := range greatRows() {
		b = b[:1<<16]
		mustPress(t, b, plainPress(b))
	}
}

// TestPressSize (P3.3): n bytes take at most n + n / 4 + 9.
func TestPressSize(t *testing.T) {
	seed := dice(7)
	l := append(rows(), greatRows()...)
	b := []byte(apart(window)) // copies of four bytes from far ahead, with one new byte behind each
	for i := range 2000 {
		from := 2 * seed.below(window/2-2)
		b = append(append(b, b[from:from+4]...), byte('a'+i%26))
	}
	for _, b := range append(l, b) {
		if got, most := len(press.Press(b)), len(b)+len(b)/4+9; got > most {
			t.Errorf("Press of %s has %d bytes, at most %d may be", told(b), got, most)
		}
	}
}

// TestPressLike (P3.3): n like bytes, n from 5 on, take at most 20 + n / 64.
func TestPressLike(t *testing.T) {
	lengths := []int{1 << 14, 1<<16 + 1, api.MaxBytes - 1, api.MaxBytes}
	for n := 5; n < 2000; n++ {
		lengths = append(lengths, n)
	}
	for _, n := range lengths {
		for _, c := range []byte{0, 'a', 255} {
			b := bytes.Repeat([]byte{c}, n)
			p := press.Press(b)
			if len(p) > 20+n/64 {
				t.Errorf("%d like bytes take %d", n, len(p))
			}
			if got, e := press.Open(p, n); !bytes.Equal(got, b) || e != api.OK {
				t.Errorf("%d like bytes: %s, %v", n, told(got), e)
			}
		}
	}
}

// TestHandedIn (R3): what is handed in is as it was, the room behind it, too, and no answer shares memory with it.
func TestHandedIn(t *testing.T) {
	for _, b := range rows() {
		room := join(b, []byte("what stands behind"))
		p := press.Press(room[:len(b)])
		if !bytes.Equal(room, join(b, []byte("what stands behind"))) {
			t.Errorf("Press changed %s", told(b))
		}
		clear(room)
		if !bytes.Equal(p, press.Press(b)) {
			t.Errorf("Press shares %s", told(b))
		}
		room = join(p, []byte("what stands behind"))
		got, e := press.Open(room[:len(p)], len(b))
		if e != api.OK || !bytes.Equal(room, join(p, []byte("what stands behind"))) {
			t.Errorf("Open changed what %s is pressed to, %v", told(b), e)
		}
		clear(room)
		if !bytes.Equal(got, b) {
			t.Errorf("Open shares what %s is pressed to", told(b))
		}
		clear(got[:cap(got)])
		if again, e := press.Open(p, len(b)); !bytes.Equal(again, b) || e != api.OK {
			t.Errorf("two answers share memory: %s", told(b))
		}
	}
}

// TestAllEnd (P1): every call ends and none panics, whatever it is given; what opens is as long as it says, and no longer than it may be.
func TestAllEnd(t *testing.T) {
	check := func(p []byte) {
		for _, most := range []int{math.MinInt, -1, 0, 3, 300, math.MaxInt} {
			b, e := press.Open(p, most)
			if e != api.OK && (e != api.ErrCorrupt || b != nil) {
				t.Errorf("Open(% x, %d): %q, %v", p, most, b, e)
			}
			if n, _ := binary.Uvarint(p); e == api.OK && (len(b) > most || len(b) != int(n)) {
				t.Errorf("Open(% x, %d): %q", p, most, b)
			}
		}
		if got, e := press.Open(press.Press(p), len(p)); !bytes.Equal(got, p) || e != api.OK {
			t.Errorf("Open of Press of % x: % x, %v", p, got, e)
		}
	}
	check(nil)
	for i := range 1 << 16 {
		check([]byte{byte(i >> 8), byte(i)})
		check([]byte{8, 0, 'a', byte(i >> 8), byte(i)})
	}
	seed := dice(11)
	for n := range 3000 {
		check(mixed(n%40, 1+n%256, seed))
		p := press.Press(patched(500, dice(n))) // bytes that would open, but for one of them
		p[seed.below(len(p))] = byte(seed.below(256))
		check(p)
	}
}
