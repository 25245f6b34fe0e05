package sum_test

import (
	"bytes"
	"encoding/binary"
	"encoding/hex"
	"testing"

	"dolmen/api"
	"dolmen/sum"
)

// plainSum is P1.1 word for word, on numbers of 64 bits and with all bytes in one row, so that it shares no way with the package.
func plainSum(b []byte) string {
	all := append(bytes.Clone(b), 1)
	for (len(all)+8)%32 != 0 {
		all = append(all, 0)
	}
	all = binary.LittleEndian.AppendUint64(all, uint64(len(b)))
	all = append(all, make([]byte, 32)...)
	const modulo = uint64(1) << 32
	var s [8]uint64
	for i := range s {
		s[i] = uint64(i+1) * 0x9E3779B9 % modulo
	}
	for ; len(all) > 0; all = all[32:] {
		for r := 0; r < 8; r++ {
			for i := 0; i < 8; i++ {
				word := uint64(binary.LittleEndian.Uint32(all[4*((i+r)%8):]))
				moved := (s[i] ^ word) << (5 + 3*i)
				turned := moved%modulo + moved/modulo
				s[i] = (turned + s[(i+1)%8]*0x85EBCA6B + uint64(i+r)) % modulo
			}
		}
	}
	var out []byte
	for _, w := range s {
		out = binary.LittleEndian.AppendUint32(out, uint32(w))
	}
	return string(out)
}

// row is n bytes that no short period repeats.
func row(n int) []byte {
	b := make([]byte, n)
	for i := range b {
		b[i] = byte(7*i + i/256 + 3)
	}
	return b
}

// TestSumKnown (P1.1): sums that were worked out by another program from the document's words.
func TestSumKnown(t *testing.T) {
	known := []struct {
		b   []byte
		hex string
	}{
		{nil, "75be4d39e9de0213319199ab7355c4ac6dc43f1a5a48137e424d50101c35ce75"},
		{[]byte{}, "75be4d39e9de0213319199ab7355c4ac6dc43f1a5a48137e424d50101c35ce75"},
		{[]byte{0}, "f3e62f5f100c84f223907a0055056a649f82d69e98c34f266441a542c1ca4c94"},
		{row(1), "eb441e1ce8c86df1702d04049d9c968c42dce068e7e966c7db6e9555d733e66c"},
		{row(22), "942478bd5546316042824b7b939a50939f61da23f68b5d141820908f95053830"},
		{row(23), "9439d8cafe8ee7d2114cfe43524956978df6d924b4b9978d1d6ff346fda88575"},
		{row(24), "083dec9a8d57122a8a21f750729c9f5b6842b939906bb419a688247237b0d498"},
		{row(31), "480a69bfa649580f7ffe069a5bfbd56c9128c4cf15ad7c80d298504a40fceeea"},
		{row(32), "6a5089d23b1992a84c43ea7ffcce288b82dd18f4e4441f08a65bf1b376b560c2"},
		{row(33), "e106b307fdc3514b9bf39411b40b6e780e692a7cf1aa107efb76e4afb597295f"},
		{row(63), "4f7b37ca89643b9660d43c1e07b7a0f76050f7fff9633ceaaf2c4cd5ae2c5285"},
		{row(64), "5d490b5ca9eaf987f2ad8f746ef9d3b557f421080a2bf1c0ec7cf04c740bea15"},
		{[]byte("a stone upon two stones"), "060cc5cb6ec6d6669128ddb3ac631c220f14f098be1de35c7e5795b0a26170cb"},
	}
	for _, k := range known {
		if got := hex.EncodeToString([]byte(sum.Sum(k.b))); got != k.hex {
			t.Errorf("Sum of %d bytes: %s, want %s", len(k.b), got, k.hex)
		}
	}
}

// TestSumPlain (P1.1): rows of all lengths around the ends of blocks, and longer ones whose length takes more than one byte.
func TestSumPlain(t *testing.T) {
	lengths := []int{255, 256, 257, 1000, 65535, 65536, 65537, api.MaxBytes}
	for n := range 200 {
		lengths = append(lengths, n)
	}
	for _, n := range lengths {
		for _, b := range [][]byte{row(n), make([]byte, n), bytes.Repeat([]byte{255}, n)} {
			if sum.Sum(b) != plainSum(b) {
				t.Errorf("Sum of %d bytes", n)
			}
		}
	}
}

// TestSumApart (P1.1): what closes a row tells rows of like beginnings apart.
func TestSumApart(t *testing.T) {
	seen := map[string]int{}
	for n := range 200 {
		for i, b := range [][]byte{make([]byte, n), append(make([]byte, n), 1)} {
			s := sum.Sum(b)
			if m, ok := seen[s]; ok {
				t.Errorf("%d and %d have one sum", m, 2*n+i)
			}
			seen[s] = 2*n + i
		}
	}
}

// TestSumSize (P1.4): a Sum has 32 bytes.
func TestSumSize(t *testing.T) {
	for n := range 100 {
		if got := len(sum.Sum(row(n))); got != api.IdSize {
			t.Errorf("Sum of %d bytes has %d", n, got)
		}
	}
}

// TestRunParted (P1.2, P1.4): however bytes are parted among Adds, End is the same.
func TestRunParted(t *testing.T) {
	for _, n := range []int{0, 1, 23, 24, 31, 32, 33, 63, 64, 65, 100, 300} {
		b := row(n)
		want := sum.Sum(b)
		for first := range n + 1 {
			r := sum.New()
			r.Add(b[:first])
			r.Add(nil)
			r.Add(b[first:])
			if r.End() != want {
				t.Errorf("%d bytes parted at %d", n, first)
			}
		}
		for step := 1; step <= 70; step++ {
			r := sum.New()
			for i := 0; i < n; i += step {
				r.Add(b[i:min(i+step, n)])
			}
			if r.End() != want {
				t.Errorf("%d bytes by %d", n, step)
			}
		}
	}
}

// TestRunGoesOn (P1.2): End turns nothing; a run can be given more behind it, at each length.
func TestRunGoesOn(t *testing.T) {
	b := row(150)
	r := sum.New()
	for i := range b {
		if r.End() != plainSum(b[:i]) || r.End() != plainSum(b[:i]) {
			t.Errorf("End behind %d bytes", i)
		}
		r.Add(b[i : i+1])
	}
	if r.End() != plainSum(b) {
		t.Error("End behind all")
	}
}

// TestRunZero (P1.2): a zero Run is as one that New has made.
func TestRunZero(t *testing.T) {
	var r sum.Run
	if r.End() != plainSum(nil) || sum.New().End() != plainSum(nil) {
		t.Error("End of nothing")
	}
	r.Add([]byte{})
	r.Add(row(32))
	if r.End() != plainSum(row(32)) {
		t.Error("End of a block")
	}
	r.Add(row(5))
	if r.End() != plainSum(append(row(32), row(5)...)) {
		t.Error("End of more than a block")
	}
	if *sum.New() != (sum.Run{}) {
		t.Error("New has made another run than a zero one")
	}
}

// TestRunNil (P1.2, P1): a nil run takes nothing.
func TestRunNil(t *testing.T) {
	var r *sum.Run
	r.Add(nil)
	r.Add(row(40))
	if r.End() != plainSum(nil) {
		t.Error("End of a nil run")
	}
}

// TestRunCopied (P1.2): runs are apart, also one that was copied from another.
func TestRunCopied(t *testing.T) {
	a := sum.New()
	a.Add(row(40))
	b := *a
	a.Add([]byte("left"))
	b.Add([]byte("right"))
	if a.End() != plainSum(append(row(40), "left"...)) {
		t.Error("the run that was copied")
	}
	if b.End() != plainSum(append(row(40), "right"...)) {
		t.Error("the copy")
	}
}

// TestHandedIn (R3): what is handed in is neither changed nor kept.
func TestHandedIn(t *testing.T) {
	for _, n := range []int{1, 31, 32, 33, 80} {
		b := row(n)
		r := sum.New()
		r.Add(b)
		if r.End() != sum.Sum(b) || !bytes.Equal(b, row(n)) {
			t.Errorf("%d bytes were changed", n)
		}
		clear(b)
		if r.End() != plainSum(row(n)) {
			t.Errorf("%d bytes were kept", n)
		}
	}
	spare := row(64)
	sum.Sum(spare[:20])
	if !bytes.Equal(spare, row(64)) {
		t.Error("bytes behind those handed in were changed")
	}
}

// TestHex (P1.3): two digits for each byte, the higher one first.
func TestHex(t *testing.T) {
	known := [][2]string{
		{"", ""},
		{"\x00\x0f\xa0", "000fa0"},
		{"\x9a\xbf\xff", "9abfff"},
		{"az", "617a"},
		{"é", "c3a9"},
	}
	for _, k := range known {
		if got := sum.Hex(k[0]); got != k[1] {
			t.Errorf("Hex(%q): %q, want %q", k[0], got, k[1])
		}
		if id, e := sum.Unhex(k[1]); id != k[0] || e != api.OK {
			t.Errorf("Unhex(%q): %q, %v", k[1], id, e)
		}
	}
	for c := range 256 {
		if got, want := sum.Hex(string([]byte{byte(c)})), hex.EncodeToString([]byte{byte(c)}); got != want {
			t.Errorf("Hex of %d: %q, want %q", c, got, want)
		}
	}
}

// TestUnhexDigits (P1.3): of all pairs of bytes just those of digits 0 to 9, a to f are a byte.
func TestUnhexDigits(t *testing.T) {
	const digits = "0123456789abcdef"
	value := map[byte]int{}
	for i := range len(digits) {
		value[digits[i]] = i
	}
	for i := range 1 << 16 {
		high, low := byte(i>>8), byte(i)
		h, okHigh := value[high]
		l, okLow := value[low]
		id, e := sum.Unhex(string([]byte{high, low}))
		if okHigh && okLow {
			if e != api.OK || id != string([]byte{byte(16*h + l)}) {
				t.Errorf("Unhex of %q%q: %q, %v", high, low, id, e)
			}
		} else if e != api.ErrArg || id != "" {
			t.Errorf("Unhex of %q%q: %q, %v", high, low, id, e)
		}
	}
}

// TestUnhexWrong (P1.3): what is no digits, two for each byte, is ErrArg, and nothing beside it.
func TestUnhexWrong(t *testing.T) {
	wrong := []string{
		"0", "f", "000", "0f0", "abcde",
		"0F", "F0", "AB", "abCD", "00000A",
		"0g", "g0", "zz", "0x", "0 ", " 0", "+1", "-1", "00\n", "00\n0",
		"00zz", "zz00", "é", "éé", "\x00\x00", "\xff\xff", "00\xff",
	}
	for _, s := range wrong {
		if id, e := sum.Unhex(s); id != "" || e != api.ErrArg {
			t.Errorf("Unhex(%q): %q, %v", s, id, e)
		}
	}
}

// TestUnhexOfHex (P1.4): Unhex of Hex is the id.
func TestUnhexOfHex(t *testing.T) {
	for n := range 100 {
		for _, id := range []string{sum.Sum(row(n)), string(row(n))} {
			if back, e := sum.Unhex(sum.Hex(id)); back != id || e != api.OK {
				t.Errorf("Unhex of Hex of %q: %q, %v", id, back, e)
			}
		}
	}
}
