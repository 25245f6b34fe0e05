package delta_test

import (
	"bytes"
	"encoding/binary"
	"math"
	"strconv"
	"strings"
	"testing"

	"dolmen/api"
	"dolmen/delta"
)

// mosts are enough for whatever these tests tell.
var mosts = []int{8 * api.MaxBytes, api.MaxNum, math.MaxInt}

// notNums are bytes that begin with no number.
var notNums = []string{"", "\x80", "\x80\x00", "\x81\x00", "\x81\x80", "\x90\x80\x00", "\xff\xff\xff\xff\xff\xff\xff\xff\x40", strings.Repeat("\xff", 9) + "\x01", strings.Repeat("\x80", 9) + "\x01"}

// num is a number as layer 2 lays it, by the library's own numbers.
func num(n int) []byte { return binary.AppendUvarint(nil, uint64(n)) }

// takeNum takes such a one; ok is false, if b does not begin with what num lays for one from 0 to 2^62 - 1.
func takeNum(b []byte) (n int, rest []byte, ok bool) {
	u, size := binary.Uvarint(b)
	if size <= 0 || u > 1<<62-1 || len(num(int(u))) != size {
		return 0, nil, false
	}
	return int(u), b[size:], true
}

// join is rows behind each other, in new memory.
func join(rows ...[]byte) []byte { return bytes.Join(rows, nil) }

// insert is the token of an insert.
func insert(s string) []byte { return join(num(2*(len(s)-1)), []byte(s)) }

// from is the token of a copy of n bytes from the place k.
func from(k, n int) []byte { return join(num(2*(n-1)+1), num(k)) }

// lengths are a delta's first two numbers, and tokens behind them.
func lengths(base, target int, tokens ...[]byte) []byte {
	return join(num(base), num(target), join(tokens...))
}

// plainEncode is P8.1 word for word: every block of the base is held against every place of the middle.
func plainEncode(base, target []byte) []byte {
	out := lengths(len(base), len(target))
	begin := 0
	for begin < len(base) && begin < len(target) && base[begin] == target[begin] {
		begin++
	}
	end := 0
	for end < len(base)-begin && end < len(target)-begin && base[len(base)-1-end] == target[len(target)-1-end] {
		end++
	}
	if begin > 0 {
		out = join(out, from(0, begin))
	}
	middle := target[begin : len(target)-end]
	passed := 0
	for i := 0; i < len(middle); {
		k := 0
		for k+16 <= len(base) && !bytes.HasPrefix(middle[i:], base[k:k+16]) {
			k += 16
		}
		if k+16 > len(base) {
			i++
			continue
		}
		n := 16
		for k+n < len(base) && i+n < len(middle) && base[k+n] == middle[i+n] {
			n++
		}
		if passed < i {
			out = join(out, insert(string(middle[passed:i])))
		}
		out = join(out, from(k, n))
		i += n
		passed = i
	}
	if passed < len(middle) {
		out = join(out, insert(string(middle[passed:])))
	}
	if end > 0 {
		out = join(out, from(len(base)-end, end))
	}
	return out
}

// plainApply is P8.2 word for word; ok is false, where it asks for ErrCorrupt.
func plainApply(base, d []byte, most int) (target []byte, ok bool) {
	said, d, ok := takeNum(d)
	if !ok || said != len(base) {
		return nil, false
	}
	size, d, ok := takeNum(d)
	if !ok || size > most {
		return nil, false
	}
	for len(d) > 0 {
		var n, k int
		if n, d, ok = takeNum(d); !ok {
			return nil, false
		}
		there := d // the bytes of which the token tells the first ones
		if n%2 == 1 {
			if k, d, ok = takeNum(d); !ok || k > len(base) {
				return nil, false
			}
			there = base[k:]
		}
		length := n/2 + 1
		if length > len(there) || length > size-len(target) {
			return nil, false
		}
		target = join(target, there[:length])
		if n%2 == 0 {
			d = d[length:]
		}
	}
	return target, len(target) == size
}

// dice is a row of numbers that is the same in each run of the tests.
type dice uint64

// below is the next number, below n.
func (d *dice) below(n int) int {
	*d = *d*6364136223846793005 + 1442695040888963407
	return int(uint64(*d)>>33) % n
}

// mixed is n bytes of so many different ones.
func mixed(n, different int, seed dice) []byte {
	b := make([]byte, n)
	for i := range b {
		b[i] = byte(seed.below(different))
	}
	return b
}

// apart is n bytes, at most 8192, none of them a letter's or the last one of a number, of which no 16 stand there twice; of the first 128 none.
func apart(n int) string {
	b := make([]byte, n)
	for i := range b {
		b[i] = byte(128 + i*(1+i/128*2)%128)
	}
	return string(b)
}

// woven is about n bytes: pieces of the base from anywhere, most of them in its order, with new bytes between them.
func woven(base []byte, n, different int, seed dice) []byte {
	var b []byte
	for len(b) < n {
		if len(base) > 0 {
			k := seed.below(len(base))
			b = append(b, base[k:min(len(base), k+seed.below(100))]...)
		}
		b = append(b, mixed(seed.below(20), different, seed+dice(len(b)))...)
	}
	return b
}

// edited is the base with runs of it replaced by others, so many times.
func edited(base []byte, times, different int, seed dice) []byte {
	b := join(base)
	for range times {
		i := seed.below(len(b) + 1)
		k := i + seed.below(min(40, len(b)-i)+1)
		b = join(b[:i], mixed(seed.below(40), different, seed), b[k:])
	}
	return b
}

// pair is a base with a target.
type pair struct{ base, target []byte }

// pairs are of all kinds, so short that plainEncode can take them.
func pairs() []pair {
	var l []pair
	for i, n := range []int{0, 1, 2, 3, 5, 14, 15, 16, 17, 18, 31, 32, 33, 47, 48, 49, 64, 100, 129, 300, 1000} {
		for _, different := range []int{1, 2, 3, 10, 256} {
			seed := dice(100*i + different)
			base := mixed(n, different, seed)
			l = append(l,
				pair{base, nil}, pair{nil, base}, pair{base, base},
				pair{base, mixed(n, different, seed+1)}, pair{base, mixed(2*n+3, different, seed+2)},
				pair{base, woven(base, n, different, seed+3)}, pair{base, woven(base, 3*n, different, seed+4)},
				pair{woven(base, 2*n, different, seed+5), base},
				pair{base, edited(base, 1, different, seed+6)}, pair{base, edited(base, 2, different, seed+7)}, pair{base, edited(base, 9, 256, seed+8)},
				pair{base, join([]byte("<"), base, []byte(">"), base)},
				pair{base, base[n/2:]}, pair{base, base[:n/2]}, pair{base[n/2:], base}, pair{base[:n/2], base},
				pair{base, bytes.Repeat(base, 3)}, pair{bytes.Repeat(base, 3), join([]byte("<"), base)},
				pair{base, join(base[n/2:], base[:n/2])})
		}
	}
	return l
}

// told is a row in a test's message, the beginning of a long one.
func told(b []byte) string {
	return strconv.Quote(string(b[:min(len(b), 40)])) + " (" + strconv.Itoa(len(b)) + " bytes)"
}

// mustEncode holds that target is told by base as the tokens tell it, and made of that again.
func mustEncode(t *testing.T, base, target string, tokens ...[]byte) {
	t.Helper()
	want := lengths(len(base), len(target), tokens...)
	if got := delta.Encode([]byte(base), []byte(target)); !bytes.Equal(got, want) {
		t.Errorf("Encode of %s by %s: % x, want % x", told([]byte(target)), told([]byte(base)), got[:min(len(got), 60)], want[:min(len(want), 60)])
	}
	mustApply(t, []byte(base), want, []byte(target))
}

// mustApply holds that d makes the target of the base, where just as many bytes may be, and more, and that fewer are refused.
func mustApply(t *testing.T, base, d, target []byte) {
	t.Helper()
	for _, most := range append([]int{len(target), len(target) + 1}, mosts...) {
		if got, e := delta.Apply(base, d, most); !bytes.Equal(got, target) || e != api.OK {
			t.Errorf("Apply of %s to %s, at most %d: %s, %v, want %s", told(d), told(base), most, told(got), e, told(target))
		}
	}
	for _, most := range []int{len(target) - 1, len(target) / 2, 1, 0, -1, -len(target), math.MinInt} {
		if most < len(target) {
			mustRefuseMost(t, base, d, most)
		}
	}
}

// mustRefuse holds that d is ErrCorrupt, however much may be.
func mustRefuse(t *testing.T, base, d []byte) {
	t.Helper()
	for _, most := range append([]int{-1, 0, 10}, mosts...) {
		mustRefuseMost(t, base, d, most)
	}
}

// mustRefuseMost holds that d is ErrCorrupt, and nothing beside it.
func mustRefuseMost(t *testing.T, base, d []byte, most int) {
	t.Helper()
	if got, e := delta.Apply(base, d, most); got != nil || e != api.ErrCorrupt {
		t.Errorf("Apply of %s to %s, at most %d: %s, %v", told(d), told(base), most, told(got), e)
	}
}

// mustBeAsPlain holds one answer of Apply against the document's words.
func mustBeAsPlain(t *testing.T, base, d []byte, most int) {
	t.Helper()
	want, ok := plainApply(base, d, most)
	if !ok {
		mustRefuseMost(t, base, d, most)
	} else if got, e := delta.Apply(base, d, most); !bytes.Equal(got, want) || e != api.OK {
		t.Errorf("Apply of %s to %s, at most %d: %s, %v, want %s", told(d), told(base), most, told(got), e, told(want))
	}
}

// TestExample (P8.1): the document's own, byte for byte.
func TestExample(t *testing.T) {
	got := delta.Encode([]byte("abcdef"), []byte("abXef"))
	if string(got) != "\x06\x05\x03\x00\x00X\x03\x04" {
		t.Errorf("% x", got)
	}
	mustApply(t, []byte("abcdef"), []byte("\x06\x05\x03\x00\x00X\x03\x04"), []byte("abXef"))
}

// TestEnds (P8.1): the common beginning is told first, the common end is sought in what is left of both alone; what is empty is not told.
func TestEnds(t *testing.T) {
	mustEncode(t, "", "")
	mustEncode(t, "abc", "")
	mustEncode(t, "", "abc", insert("abc"))
	mustEncode(t, "abc", "xyz", insert("xyz"))
	mustEncode(t, "abc", "abc", from(0, 3))
	mustEncode(t, "a", "a", from(0, 1))
	mustEncode(t, "abc", "abcde", from(0, 3), insert("de"))
	mustEncode(t, "abcde", "abc", from(0, 3))
	mustEncode(t, "cde", "abcde", insert("ab"), from(0, 3))
	mustEncode(t, "abcde", "cde", from(2, 3))
	mustEncode(t, "abcdef", "abef", from(0, 2), from(4, 2))
	mustEncode(t, "abef", "abcdef", from(0, 2), insert("cd"), from(2, 2))
	mustEncode(t, "abcde", "Xbcde", insert("X"), from(1, 4))
	mustEncode(t, "abcde", "abcdX", from(0, 4), insert("X"))
	mustEncode(t, "abcde", "XbcdY", insert("XbcdY")) // what is alike amid both is no block
	mustEncode(t, "abcdef", "abXYef", from(0, 2), insert("XY"), from(4, 2))
}

// TestEndsOverlap (P8.1): bytes that the common beginning has taken are no part of the common end, neither the base's nor the target's.
func TestEndsOverlap(t *testing.T) {
	mustEncode(t, "aaa", "aa", from(0, 2))
	mustEncode(t, "aa", "aaa", from(0, 2), insert("a"))
	mustEncode(t, "aaaa", "aaXaa", from(0, 2), insert("X"), from(2, 2))
	mustEncode(t, "aaXaa", "aaaa", from(0, 2), from(3, 2))
	mustEncode(t, "aba", "a", from(0, 1))
	mustEncode(t, "a", "aba", from(0, 1), insert("ba"))
	mustEncode(t, "aba", "ababa", from(0, 3), insert("ba"))
	mustEncode(t, "ababa", "aba", from(0, 3))
	mustEncode(t, "abXab", "ab", from(0, 2))
	mustEncode(t, "abXab", "abab", from(0, 2), from(3, 2))
	mustEncode(t, "aabaa", "aaa", from(0, 2), from(4, 1))
	mustEncode(t, "aaa", "aabaa", from(0, 2), insert("ba"), from(2, 1))
	for n := range 40 {
		for m := range 80 {
			tokens := [][]byte{from(0, min(n, m))}
			if min(n, m) == 0 {
				tokens = nil
			}
			rest := max(0, m-n) // the middle holds the base's first block, if that has any
			for n >= 16 && rest >= 16 {
				tokens = append(tokens, from(0, min(n, rest)))
				rest -= min(n, rest)
			}
			if rest > 0 {
				tokens = append(tokens, insert(strings.Repeat("a", rest)))
			}
			mustEncode(t, strings.Repeat("a", n), strings.Repeat("a", m), tokens...)
		}
	}
}

// TestBlock (P8.1): a block of the base is copied from wherever it stands in the base to wherever it stands in the middle, with inserts ahead of, between and behind copies.
func TestBlock(t *testing.T) {
	base := "0123456789abcdef" + apart(64) + ")"
	for k := 16; k < 80; k += 16 {
		b := base[k : k+16]
		mustEncode(t, base, b, from(k, 16))
		mustEncode(t, base, b+">", from(k, 16), insert(">"))
		for _, ahead := range []string{"<", "four", "15 letters here", "16 letters there", "seventeen letters"} {
			mustEncode(t, base, ahead+b, insert(ahead), from(k, 16))
			mustEncode(t, base, ahead+b+">", insert(ahead), from(k, 16), insert(">"))
		}
	}
	one, two := base[16:32], base[48:64]
	mustEncode(t, base, "<"+two+one+">", insert("<"), from(48, 16), from(16, 16), insert(">"))
	mustEncode(t, base, two+"between"+one, from(48, 16), insert("between"), from(16, 16))
	mustEncode(t, base, "ahead"+two+"between"+one+"amid"+one+"behind", insert("ahead"), from(48, 16), insert("between"), from(16, 16), insert("amid"), from(16, 16), insert("behind"))
	mustEncode(t, base, base[:5]+"X"+two+"Y"+base[75:], from(0, 5), insert("X"), from(48, 16), insert("Y"), from(75, 6))
}

// TestBlockOnly (P8.1): only bytes from a multiple of 16 on are a block, only 16 of them, and only such as are all there.
func TestBlockOnly(t *testing.T) {
	base := apart(64)
	for k := 1; k < 48; k++ {
		if k%16 == 0 {
			continue
		}
		all := "<" + base[k:k+16] + ">"
		mustEncode(t, base, all, insert(all))
		next := (k + 15) / 16 * 16 // a whole block follows behind what stands ahead of it
		mustEncode(t, base, "<"+base[k:next+16]+">", insert("<"+base[k:next]), from(next, 16), insert(">"))
	}
	for k := 0; k < 64; k += 16 { // of a block one byte is missing, or another one
		b := base[k : k+16]
		for i := range 16 {
			mustEncode(t, base, "<"+b[:i]+"x"+b[i+1:]+">", insert("<"+b[:i]+"x"+b[i+1:]+">"))
			mustEncode(t, base, "<"+b[:i]+b[i+1:]+">", insert("<"+b[:i]+b[i+1:]+">"))
		}
	}
}

// TestGoOn (P8.1): a copy goes on as long as base and middle go on alike, past the block's end, to the base's end and to the middle's end.
func TestGoOn(t *testing.T) {
	base := apart(64)
	for n := 16; n < 48; n++ {
		mustEncode(t, base, "<"+base[16:16+n]+">", insert("<"), from(16, n), insert(">"))
		mustEncode(t, base, "<"+base[16:16+n], insert("<"), from(16, n))
	}
	mustEncode(t, base, "<"+base[16:]+">", insert("<"), from(16, 48), insert(">"))                          // to the base's end
	mustEncode(t, base, "<"+base[16:]+base[:3], insert("<"), from(16, 48), insert(base[:3]))                // and not round to its beginning
	mustEncode(t, base+"END", "<"+base[16:40]+"END", insert("<"), from(16, 24), from(64, 3))                // to the middle's end
	mustEncode(t, base, "<"+base[16:40]+base[:16]+">", insert("<"), from(16, 24), from(0, 16), insert(">")) // to where they part
	mustEncode(t, base, "<"+base[16:32]+base[34:64]+">", insert("<"), from(16, 16), insert(base[34:48]), from(48, 16), insert(">"))
	long := apart(8000)
	mustEncode(t, long, "<"+long[4096:7900]+">", insert("<"), from(4096, 3804), insert(">"))
	one, two := apart(16), apart(32)[16:]
	mustEncode(t, one+"tail"+two+"tail", "<"+one+"tail", insert("<"), from(0, 16), from(36, 4)) // in the base they go on alike past the middle's end
	mustEncode(t, one+"tail"+two+"XX"+"tail", one+"tail", from(0, 20))
}

// TestFirstOfSeveral (P8.1): of several blocks that are alike the first is copied, also where a later one would go on alike further.
func TestFirstOfSeveral(t *testing.T) {
	b, c, d := apart(16), apart(32)[16:], apart(48)[32:]
	mustEncode(t, "("+c[1:]+b+c+b+d+b, "<"+b+d+">", insert("<"), from(16, 16), from(64, 16), insert(">"))
	mustEncode(t, b+"0123456789abcdef"+b+c, "<"+b+c+">", insert("<"), from(0, 16), from(48, 16), insert(">"))
	mustEncode(t, b+b+b+c, "<"+b+b+c+">", insert("<"), from(0, 32), from(48, 16), insert(">"))
	mustEncode(t, b+c+b+c, "<"+b+c+b+c+b+">", insert("<"), from(0, 64), from(0, 16), insert(">"))
	zero := strings.Repeat("\x00", 100)
	mustEncode(t, "a"+zero+"a", "<"+zero+">", insert("<"), from(16, 85), insert(zero[85:]+">"))
	mustEncode(t, "a"+zero+"a", "<"+zero+zero+">", insert("<"), from(16, 85), from(16, 85), from(16, 30), insert(">"))
	mustEncode(t, "a"+zero[:32], "<"+zero[:47]+">", insert("<"), from(16, 17), from(16, 17), insert(zero[:13]+">"))
}

// TestFirstPlace (P8.1): the middle is gone through from its beginning on: a block that is there first is copied, though it hides one that begins within it.
func TestFirstPlace(t *testing.T) {
	b, c := apart(16), apart(32)[16:]
	base := b + b[8:] + c[:8] + "0123456789abcdef" + c
	mustEncode(t, "("+base[1:]+")", "<"+b+c+">", insert("<"+b[:8]), from(16, 16), insert(c[8:]+">"))
	mustEncode(t, base+")", "<"+b+c+">", insert("<"), from(0, 16), from(48, 16), insert(">"))
}

// TestBlockInEnds (P8.1): a block of the base that lies in the common beginning or in the common end, or in part, is copied to the middle like any other.
func TestBlockInEnds(t *testing.T) {
	base := apart(96)
	mustEncode(t, base, base[:40]+"<"+base[:16]+">"+base[90:], from(0, 40), insert("<"), from(0, 16), insert(">"), from(90, 6))
	mustEncode(t, base, base[:40]+"<"+base[16:39]+">"+base[90:], from(0, 40), insert("<"), from(16, 23), insert(">"), from(90, 6))
	mustEncode(t, base, base[:40]+"<"+base[32:50]+">"+base[90:], from(0, 40), insert("<"), from(32, 18), insert(">"), from(90, 6)) // half in the common beginning
	mustEncode(t, base, base[:5]+"<"+base[80:]+">"+base[60:], from(0, 5), insert("<"), from(80, 16), insert(">"), from(60, 36))
	mustEncode(t, base, base[:5]+"<"+base[64:]+">"+base[60:], from(0, 5), insert("<"), from(64, 32), insert(">"), from(60, 36))
	mustEncode(t, base, base[:5]+"<"+base[48:70]+">"+base[60:], from(0, 5), insert("<"), from(48, 22), insert(">"), from(60, 36)) // half in the common end
	mustEncode(t, base[:48], base[:48]+"<"+base[:48], from(0, 48), insert("<"), from(0, 48))
	mustEncode(t, base[:48], base[:48]+base[:48], from(0, 48), from(0, 48))
}

// TestMiddleLengths (P8.1): a middle of 15 bytes holds no block; of 16 one, if it is just that; of 17 one at either place.
func TestMiddleLengths(t *testing.T) {
	base := apart(64)
	for _, ahead := range []string{"", base[:3]} {
		for _, behind := range []string{"", base[62:]} {
			put := func(middle string, tokens ...[]byte) {
				t.Helper()
				if ahead != "" {
					tokens = append([][]byte{from(0, 3)}, tokens...)
				}
				if behind != "" {
					tokens = append(tokens, from(62, 2))
				}
				mustEncode(t, base, ahead+middle+behind, tokens...)
			}
			put(base[16:31], insert(base[16:31]))
			put("x"+base[17:31], insert("x"+base[17:31]))
			put(base[16:32], from(16, 16))
			put(base[16:31]+"x", insert(base[16:31]+"x"))
			put("x"+base[16:31], insert("x"+base[16:31]))
			put(base[16:33], from(16, 17))
			put(base[16:32]+"x", from(16, 16), insert("x"))
			put("x"+base[16:32], insert("x"), from(16, 16))
			put("x"+base[17:32]+"x", insert("x"+base[17:32]+"x"))
			put("xx"+base[16:31], insert("xx"+base[16:31]))
		}
	}
}

// TestBaseLengths (P8.1): a base of 15 bytes has no block, of 16, 17 and 31 one, of 32 two.
func TestBaseLengths(t *testing.T) {
	for n, blocks := range map[int]int{1: 0, 14: 0, 15: 0, 16: 1, 17: 1, 18: 1, 30: 1, 31: 1, 32: 2, 33: 2, 47: 2, 48: 3} {
		base := apart(n)
		if all := "<" + base + ">"; blocks == 0 {
			mustEncode(t, base, all, insert(all))
		} else {
			mustEncode(t, base, all, insert("<"), from(0, n), insert(">"))
		}
		if n <= 16 {
			continue
		}
		if all := "<" + base[16:] + ">"; blocks < 2 {
			mustEncode(t, base, all, insert(all))
		} else {
			mustEncode(t, base, all, insert("<"), from(16, n-16), insert(">"))
		}
	}
}

// TestPlaces (P8.1): blocks stand in the middle at places of any remainder, and are found at each.
func TestPlaces(t *testing.T) {
	base := apart(200)
	for n := range 70 {
		ahead := strings.Repeat("x", n)
		for _, k := range []int{16, 32, 176} {
			tokens := [][]byte{from(k, 17), insert("y")}
			if n > 0 {
				tokens = append([][]byte{insert(ahead)}, tokens...)
			}
			mustEncode(t, base, ahead+base[k:k+17]+"y", tokens...)
		}
	}
}

// TestLongTokens (P8.1): numbers of one, two, three and four groups: lengths of both, of inserts and of copies, and places.
func TestLongTokens(t *testing.T) {
	for _, n := range []int{1, 2, 63, 64, 65, 66, 127, 128, 129, 8191, 8192, 8193, 16383, 16384, 16385, 1 << 20, 1<<20 + 1, 1<<21 + 3} {
		base, other := strings.Repeat("a", n), strings.Repeat("b", n)
		mustEncode(t, base, base, from(0, n))
		mustEncode(t, base, other, insert(other))
		mustEncode(t, base, "<"+base, insert("<"), from(0, n))
		mustEncode(t, base+"x", base+"y", from(0, n), insert("y"))
		mustEncode(t, base+"x"+other, base+"y"+other, from(0, n), insert("y"), from(n+1, n))
		mustEncode(t, base+other, "x"+other, insert("x"), from(n, n))
	}
	for _, k := range []int{16, 112, 128, 144, 16368, 16384, 16400, 1 << 20, 1 << 21} {
		base := strings.Repeat("a", k) + apart(300)
		mustEncode(t, base, "<"+base[k:k+200], insert("<"), from(k, 200))
	}
}

// TestPlainShort (P8.1): all bases and targets of up to five bytes, each of them one of two, and of up to three, each one of three.
func TestPlainShort(t *testing.T) {
	for _, of := range []struct{ different, most int }{{2, 5}, {3, 3}} {
		l := []string{""}
		for i, n := 0, 1; n <= of.most; n++ {
			for behind := len(l); i < behind; i++ {
				for c := range of.different {
					l = append(l, l[i]+string(rune('a'+c)))
				}
			}
		}
		for _, base := range l {
			for _, target := range l {
				mustBePlain(t, []byte(base), []byte(target))
			}
		}
	}
}

// mustBePlain holds both calls against the document's words.
func mustBePlain(t *testing.T, base, target []byte) {
	t.Helper()
	want := plainEncode(base, target)
	if got := delta.Encode(base, target); !bytes.Equal(got, want) {
		t.Errorf("Encode of %s by %s: % x, want % x", told(target), told(base), got[:min(len(got), 60)], want[:min(len(want), 60)])
	}
	mustApply(t, base, want, target)
}

// TestPlain (P8.1): bases and targets of all kinds, held against the document's words.
func TestPlain(t *testing.T) {
	for _, p := range pairs() {
		mustBePlain(t, p.base, p.target)
	}
	seed := dice(5)
	for i := range 3000 {
		different := 1 + seed.below(4)
		base := mixed(seed.below(120), different, dice(i))
		mustBePlain(t, base, woven(base, seed.below(200), different, dice(i+1)))
		mustBePlain(t, base, edited(base, seed.below(4), different, dice(i+2)))
	}
}

// TestApplyOther (P8.2): tokens may be parted otherwise than Encode does, and copy from anywhere in the base, also what was copied already.
func TestApplyOther(t *testing.T) {
	const base = "abcdef"
	for _, k := range []struct {
		target string
		tokens []byte
	}{
		{"", nil},
		{"abcdef", insert("abcdef")},
		{"abcdef", join(insert("a"), insert("bc"), insert("def"))},
		{"abcdef", join(from(0, 1), from(1, 1), from(2, 3), from(5, 1))},
		{"abcdef", join(from(0, 3), insert("d"), from(4, 2))},
		{"defabc", join(from(3, 3), from(0, 3))},
		{"ffffab", join(from(5, 1), from(5, 1), from(5, 1), from(5, 1), from(0, 2))},
		{"abcabcabcx", join(from(0, 3), from(0, 3), from(0, 3), insert("x"))},
		{"xyz", insert("xyz")},
		{"xabcdefy", join(insert("x"), from(0, 6), insert("y"))},
		{strings.Repeat(base, 50), bytes.Repeat(from(0, 6), 50)},
	} {
		mustApply(t, []byte(base), lengths(6, len(k.target), k.tokens), []byte(k.target))
	}
	mustApply(t, nil, lengths(0, 0), nil)
	mustApply(t, []byte{}, lengths(0, 0), []byte{})
	mustApply(t, nil, lengths(0, 3, insert("abc")), []byte("abc"))
}

// TestCutOff (P8.2): deltas that end at each byte ahead of their end.
func TestCutOff(t *testing.T) {
	for _, p := range pairs() {
		d := delta.Encode(p.base, p.target)
		for n := range min(len(d), 300) {
			mustRefuse(t, p.base, d[:n])
		}
		for n := max(0, len(d)-300); n < len(d); n++ {
			mustRefuse(t, p.base, d[:n])
		}
	}
	mustRefuse(t, nil, nil)
	mustRefuse(t, nil, []byte{})
	mustRefuse(t, []byte("abc"), nil)
}

// TestGoingOn (P8.2): deltas behind whose end something stands, be it a token or none.
func TestGoingOn(t *testing.T) {
	for _, p := range pairs() {
		d := delta.Encode(p.base, p.target)
		for _, more := range [][]byte{{0}, {1}, {128}, {255}, insert("x"), from(0, 1), from(len(p.base), 1), num(1 << 40), d} {
			mustRefuse(t, p.base, join(d, more))
		}
	}
}

// TestBaseLength (P8.2): the first number is no other than the base's length.
func TestBaseLength(t *testing.T) {
	for _, k := range []struct {
		base, target string
		tokens       []byte
	}{
		{"", "", nil},
		{"", "x", insert("x")},
		{"abc", "", nil},
		{"abc", "abc", insert("abc")},
		{"abc", "ab", from(0, 2)},
		{apart(200), "x" + apart(200), join(insert("x"), from(0, 200))},
	} {
		for _, n := range []int{0, 1, 2, 3, 4, 72, 199, 200, 201, 328, api.MaxBytes, 1 << 32, api.MaxNum, 1<<62 - 1} {
			d := lengths(n, len(k.target), k.tokens)
			if n == len(k.base) {
				mustApply(t, []byte(k.base), d, []byte(k.target))
			} else {
				mustRefuse(t, []byte(k.base), d)
			}
		}
		d := lengths(len(k.base), len(k.target), k.tokens)
		mustRefuse(t, []byte(k.base+"x"), d)
		if k.base != "" {
			mustRefuse(t, []byte(k.base[1:]), d)
			mustRefuse(t, nil, d)
		}
	}
}

// TestTargetLength (P8.2): the second number is no other than what the tokens make.
func TestTargetLength(t *testing.T) {
	const base = "abcdef"
	for _, k := range []struct {
		target string
		tokens []byte
	}{
		{"", nil},
		{"x", insert("x")},
		{"xyz", insert("xyz")},
		{"abcdef", from(0, 6)},
		{"abxdef", join(from(0, 2), insert("x"), from(3, 3))},
		{"abxyz", join(from(0, 2), insert("xyz"))},
		{"xyzbc", join(insert("xyz"), from(1, 2))},
		{"abcdefabcdef", join(from(0, 6), from(0, 6))},
	} {
		for _, n := range []int{0, 1, 2, 3, 4, 5, 6, 7, 8, 11, 12, 13, 129, 130, api.MaxBytes, 1 << 31, 1 << 32, api.MaxNum, 1<<62 - 1} {
			d := lengths(6, n, k.tokens)
			if n == len(k.target) {
				mustApply(t, []byte(base), d, []byte(k.target))
			} else {
				mustRefuse(t, []byte(base), d)
			}
		}
	}
}

// TestMost (P8.2): the target's length may be just most, and no more; below 0 nothing may be, not even the empty target.
func TestMost(t *testing.T) {
	base := []byte(apart(100))
	for _, target := range []string{"", "x", apart(100), apart(50) + "x" + apart(50)} {
		d := delta.Encode(base, []byte(target))
		for most := -3; most < 200; most++ {
			if got, e := delta.Apply(base, d, most); most >= len(target) && (string(got) != target || e != api.OK) {
				t.Errorf("Apply to %d bytes, at most %d: %s, %v", len(target), most, told(got), e)
			}
			if most < len(target) {
				mustRefuseMost(t, base, d, most)
			}
		}
	}
	for _, most := range []int{-1, -2, math.MinInt} {
		mustRefuseMost(t, nil, lengths(0, 0), most)
		mustRefuseMost(t, base, lengths(100, 0), most)
	}
}

// TestNoNumber (P8.2): where a number should stand there is none.
func TestNoNumber(t *testing.T) {
	base := []byte("abcdef")
	for _, no := range notNums {
		mustRefuse(t, base, []byte(no))
		mustRefuse(t, nil, []byte(no))
		mustRefuse(t, base, join([]byte(no), num(3), insert("xyz")))
		mustRefuse(t, base, join(num(6), []byte(no)))
		mustRefuse(t, base, join(num(6), []byte(no), insert("xyz")))
		mustRefuse(t, base, lengths(6, 6, from(0, 3), []byte(no+"xyz")))
		mustRefuse(t, base, lengths(6, 6, from(0, 3), []byte(no)))
		mustRefuse(t, base, lengths(6, 6, num(2*(6-1)+1), []byte(no)))
		mustRefuse(t, base, lengths(6, 6, num(2*(3-1)+1), []byte(no), insert("xyz"), from(0, 3)))
	}
	for _, d := range []string{ // two groups say what one says
		"\x86\x00\x03\x04xyz", "\x06\x83\x00\x04xyz", "\x06\x03\x84\x00xyz", "\x06\x03\x85\x00\x00", "\x06\x03\x05\x80\x00", "\x06\x03\x05\x81\x00",
	} {
		mustRefuse(t, base, []byte(d))
	}
	for target, d := range map[string]string{"xyz": "\x06\x03\x04xyz", "abc": "\x06\x03\x05\x00", "bcd": "\x06\x03\x05\x01"} {
		mustApply(t, base, []byte(d), []byte(target))
	}
}

// TestInsertBytes (P8.2): inserts that say more bytes than there are, or more than the target has.
func TestInsertBytes(t *testing.T) {
	base := []byte("abcdef")
	for there := range 20 {
		for _, says := range []int{1, 2, 3, 18, 19, 20, 21, 63, 64, 65, 1 << 20, 1 << 31, 1 << 32, 1 << 40, 1 << 60, 1 << 61} {
			d := join(num(2*(says-1)), []byte(apart(there)))
			for _, size := range []int{says, there, there + 1, says + 1} {
				if says == there && size == says {
					mustApply(t, base, lengths(6, size, d), []byte(apart(there)))
				} else {
					mustRefuseMost(t, base, lengths(6, size, d), math.MaxInt)
					mustRefuseMost(t, base, lengths(6, size, d), 100)
				}
			}
		}
	}
	mustRefuse(t, base, lengths(6, 3, num(1<<62-2), []byte("abc")))
	mustRefuse(t, base, lengths(6, 1<<62-1, num(1<<62-2), []byte("abc")))
	mustRefuse(t, base, lengths(6, 6, insert("abc"), num(6), []byte("def")))
	mustRefuse(t, base, lengths(6, 7, insert("abc"), num(6), []byte("def")))
}

// TestCopyPlaces (P8.2): copies from places that the base has, and from those that it has not, up to its end and past it.
func TestCopyPlaces(t *testing.T) {
	for _, size := range []int{0, 1, 2, 15, 16, 17, 100, 130} {
		base := []byte(apart(size))
		room := append(base, apart(500)[size:]...)[:size] // what stands behind the base in memory is not the base's
		lens := []int{1, 2, 14, 15, 16, 17, size - 1, size, size + 1, size + 2, 1 << 20, 1 << 31, 1 << 32, 1 << 60, 1<<61 - 1, 1 << 61}
		places := []int{0, 1, 2, 14, 15, 16, 17, size - 2, size - 1, size, size + 1, size + 2, 1 << 20, 1 << 31, 1 << 32, 1<<61 - 1, 1<<62 - 2, 1<<62 - 1}
		for _, n := range lens {
			for _, k := range places {
				if n < 1 || k < 0 {
					continue
				}
				d := lengths(size, n, from(k, n))
				if n == 1<<61 { // 2 (n - 1) + 1 is the greatest number
					d = lengths(size, n, num(1<<62-1), num(k))
				}
				if k <= size && n <= size-k {
					mustApply(t, room, d, base[k:k+n])
					continue
				}
				mustRefuse(t, base, d)
				mustRefuse(t, room, d)
				mustRefuse(t, room, lengths(size, n+1, insert("x"), from(k, n)))
				mustRefuse(t, room, lengths(size, n+1, from(k, n), insert("x")))
			}
		}
	}
}

// TestTooLong (P8.2): tokens that make the target longer than the second number, by one byte and by many.
func TestTooLong(t *testing.T) {
	base := []byte(apart(100))
	for _, n := range []int{1, 2, 50, 99, 100} {
		for _, less := range []int{1, 2, 40, 100} {
			if less > n {
				continue
			}
			mustRefuse(t, base, lengths(100, n-less, from(0, n)))
			mustRefuse(t, base, lengths(100, n-less, insert(string(base[:n]))))
			mustRefuse(t, base, lengths(100, n+10-less, insert("0123456789"), from(100-n, n)))
			mustRefuse(t, base, lengths(100, n+10-less, from(90, 10), insert(string(base[:n]))))
			mustRefuse(t, base, lengths(100, n+10-less, from(90, 10), from(0, n)))
		}
	}
}

// TestSpoilt (P8.2): deltas of which one byte is another one, held against the document's words.
func TestSpoilt(t *testing.T) {
	base := []byte(apart(40) + "0123456789" + apart(90)[40:])
	for _, target := range []string{"", "x", string(base), string(base[:50]) + "x" + string(base[50:]), "<" + string(base[16:39]) + "amid" + string(base[64:90]) + ">", string(base[20:30]) + strings.Repeat("y", 70)} {
		d := delta.Encode(base, []byte(target))
		for i := range d {
			for c := range 256 {
				spoilt := join(d)
				spoilt[i] = byte(c)
				mustBeAsPlain(t, base, spoilt, 1000)
				mustBeAsPlain(t, base, spoilt, len(target))
				mustBeAsPlain(t, base, append(spoilt, 0, 'x'), 1000)
			}
		}
	}
}

// TestApplyPlain (P8.2): tokens thrown by dice, most of which can be, held against the document's words.
func TestApplyPlain(t *testing.T) {
	seed := dice(17)
	good := 0
	for i := range 20000 {
		base := mixed(seed.below(40), 256, dice(i))
		var tokens []byte
		made := 0
		for range seed.below(6) {
			n := 1 + seed.below(12)
			made += n
			if seed.below(2) == 0 {
				tokens = join(tokens, insert(string(mixed(n, 256, seed))))
			} else {
				tokens = join(tokens, from(seed.below(len(base)+1), n))
			}
		}
		size := max(0, made+seed.below(40)/39-seed.below(40)/39)
		d := lengths(len(base), size, tokens)
		mustBeAsPlain(t, base, d, size)
		mustBeAsPlain(t, base, d, size+seed.below(3)-1)
		if _, ok := plainApply(base, d, size); ok {
			good++
		}
	}
	if good < 5000 || good > 15000 {
		t.Errorf("%d of 20000 could be applied", good)
	}
}

// greatPairs are of contents as long as a file may be.
func greatPairs() []pair {
	const n = api.MaxBytes
	random, bits, same := mixed(n, 256, 1), mixed(n, 2, 2), make([]byte, n)
	words := bytes.Repeat([]byte("menhir, dolmen, "), n/16)
	return []pair{
		{random, random}, {same, same}, {nil, random}, {random, nil},
		{random, bits}, {bits, random}, {same, random}, {random, same}, {bits, mixed(n, 2, 3)},
		{random, woven(random, n-100, 256, 4)[:n-100]}, {bits, woven(bits, n-100, 2, 5)[:n-100]}, {words, woven(words, n-100, 8, 6)[:n-100]},
		{random, edited(random, 50, 256, 7)}, {same, edited(same, 50, 256, 8)}, {words, edited(words, 50, 256, 9)},
		{random, join(random[n/2:], random[:n/2])}, {words, same}, {same, join([]byte{1}, same[1:])}, {same, join(same[:n/2], []byte{1}, same[n/2+1:])},
	}
}

// TestApplyOfEncode (P8.3): Apply of Encode is the target, also of the longest contents.
func TestApplyOfEncode(t *testing.T) {
	for _, p := range greatPairs() {
		mustApply(t, p.base, delta.Encode(p.base, p.target), p.target)
	}
	base := mixed(300, 3, 1) // a long run, each target the next one's base
	for i := range 2000 {
		target := edited(base, 1+i%3, 1+i%256, dice(i))
		if i%7 == 0 {
			target = woven(base, 300, 1+i%9, dice(i))
		}
		if len(target) > 600 {
			target = target[:300]
		}
		mustApply(t, base, delta.Encode(base, target), target)
		base = target
	}
}

// TestOneRun (P8.3): a target that differs from its base in one run of at most d bytes takes at most d + 40.
func TestOneRun(t *testing.T) {
	seed := dice(23)
	for _, n := range []int{0, 1, 10, 16, 100, 1000, 5000, api.MaxBytes} {
		base := mixed(n, 256, seed)
		for _, d := range []int{0, 1, 2, 15, 16, 17, 63, 64, 65, 300, 8193, 100000} {
			for _, at := range []int{0, n / 3, n - d, n} {
				for _, gone := range []int{0, 1, d, 2 * d, n} {
					if at < 0 || at+gone > n || n-gone+d > api.MaxBytes {
						continue
					}
					for _, run := range runs(base, d, seed) {
						mustBeSmall(t, base, join(base[:at], run, base[at+gone:]), d+40)
					}
				}
			}
		}
	}
}

// runs are runs of d bytes: new ones, like ones, and pieces of the base of no more than a block, as far in it as can be, with a new byte behind each.
func runs(base []byte, d int, seed dice) [][]byte {
	l := [][]byte{mixed(d, 256, seed+1), make([]byte, d)}
	if last := len(base)/16*16 - 16; last >= 0 {
		l = append(l, bytes.Repeat(base[last:last+16], d/16+1)[:d], bytes.Repeat(join(base[last:last+16], []byte{^base[max(0, last-1)]}), d/17+1)[:d])
	}
	return l
}

// mustBeSmall holds that a delta has at most so many bytes, and makes the target again.
func mustBeSmall(t *testing.T, base, target []byte, most int) {
	t.Helper()
	d := delta.Encode(base, target)
	if len(d) > most {
		t.Errorf("%s by %s takes %d bytes, at most %d may be", told(target), told(base), len(d), most)
	}
	if got, e := delta.Apply(base, d, len(target)); !bytes.Equal(got, target) || e != api.OK {
		t.Errorf("%s by %s: %s, %v", told(target), told(base), told(got), e)
	}
}

// TestOwn (P8.3): of a base itself a delta has at most 13 bytes.
func TestOwn(t *testing.T) {
	for _, n := range []int{0, 1, 2, 15, 16, 17, 63, 64, 65, 127, 128, 8192, 8193, 16383, 16384, 1<<20 - 1, 1 << 20, 1<<21 + 1} {
		for _, different := range []int{1, 2, 256} {
			base := mixed(n, different, dice(n))
			mustBeSmall(t, base, join(base), 13)
			mustBeSmall(t, base, base, 13)
		}
	}
}

// TestHandedIn (R3): what is handed in is as it was, the room behind it, too, and no answer shares memory with it, or with another answer.
func TestHandedIn(t *testing.T) {
	const behind = "what stands behind"
	room := func(b []byte) []byte { return append(join(b), behind...)[:len(b)] }
	same := func(b, was []byte) bool { return bytes.Equal(b[:len(b)+len(behind)], append(join(was), behind...)) }
	for _, p := range pairs() {
		base, target := room(p.base), room(p.target)
		d := delta.Encode(base, target)
		if !same(base, p.base) || !same(target, p.target) {
			t.Errorf("Encode changed %s or %s", told(p.base), told(p.target))
		}
		clear(base[:cap(base)])
		clear(target[:cap(target)])
		want := plainEncode(p.base, p.target)
		if !bytes.Equal(d, want) {
			t.Errorf("Encode shares %s or %s", told(p.base), told(p.target))
		}
		clear(d[:cap(d)])
		mustBeWhole(t, p, want, room, same)
	}
}

// mustBeWhole is TestHandedIn for Apply.
func mustBeWhole(t *testing.T, p pair, want []byte, room func([]byte) []byte, same func(b, was []byte) bool) {
	t.Helper()
	base, d := room(p.base), room(want)
	got, e := delta.Apply(base, d, len(p.target))
	again, _ := delta.Apply(base, d, len(p.target))
	if e != api.OK || !same(base, p.base) || !same(d, want) {
		t.Errorf("Apply changed %s or its delta, %v", told(p.base), e)
	}
	clear(base[:cap(base)])
	clear(d[:cap(d)])
	if !bytes.Equal(got, p.target) {
		t.Errorf("Apply shares %s or its delta", told(p.base))
	}
	clear(got[:cap(got)])
	if !bytes.Equal(again, p.target) {
		t.Errorf("two answers of Apply to %s share memory", told(p.base))
	}
}

// TestOneBytes (R1): base, target and delta may be one and the same bytes.
func TestOneBytes(t *testing.T) {
	for _, p := range pairs() {
		mustApply(t, p.base, delta.Encode(p.base, p.base), p.base)
		mustBeAsPlain(t, p.base, p.base, math.MaxInt)
	}
	b := []byte("\x06\x04\x03\x00\x03\x00") // six bytes that tell four by themselves
	mustApply(t, b, b, []byte("\x06\x04\x06\x04"))
}

// TestAllEnd (P1): every call ends and none panics, whatever it is given; what can be applied is as the document's words say, and can be told again.
func TestAllEnd(t *testing.T) {
	check := func(base, d []byte) {
		for _, most := range []int{math.MinInt, -1, 0, 3, 300, math.MaxInt} {
			mustBeAsPlain(t, base, d, most)
		}
		for _, p := range []pair{{base, d}, {d, base}} {
			if got, e := delta.Apply(p.base, delta.Encode(p.base, p.target), len(p.target)); !bytes.Equal(got, p.target) || e != api.OK {
				t.Errorf("Apply of Encode of % x by % x: % x, %v", p.target, p.base, got, e)
			}
		}
	}
	check(nil, nil)
	for i := range 1 << 16 {
		check(nil, []byte{byte(i >> 8), byte(i)})
		check([]byte("abc"), []byte{3, 4, byte(i >> 8), byte(i)})
		check([]byte("abc"), []byte{3, 4, 0, 'x', byte(i >> 8), byte(i), 'y', 'z'})
	}
	seed := dice(11)
	for n := range 3000 {
		base := mixed(n%50, 1+n%256, dice(n))
		check(base, mixed(n%40, 1+n%256, seed))
		d := delta.Encode(base, woven(base, 60, 256, dice(n))) // a delta that could be applied, but for one of its bytes
		d[seed.below(len(d))] = byte(seed.below(256))
		check(base, d)
	}
}
