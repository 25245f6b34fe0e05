package safe_test

import (
	"bytes"
	"fmt"
	"maps"
	"math"
	"slices"
	"strings"
	"testing"

	"dolmen/api"
	"dolmen/disk"
	"dolmen/safe"
)

// longest is a name whose shadow's name has just MaxName bytes.
var longest = strings.Repeat("n", 199)

// good are names that a Save may have.
var good = []string{"a", "~a", "a~b", "~~ ", "/", "..", " ", "\n", "\x01", "\x7f", "\xff", "\xc3\x28", "w/a/b", "state", longest, longest[:198], strings.Repeat("\xff", 199), longest[:197] + "~n"}

// bad are names that it may not have: none at all, one that ends by "~", one of which or of whose shadow there may be no file.
var bad = []string{"", "~", "~~", "a~", "a~~", "w/a~", longest[:198] + "~", longest + "~", longest + "n~", longest + "n", longest + "nn", strings.Repeat("é", 100), strings.Repeat("n", 1<<16), "\x00", "\x00a", "a\x00", "a\x00b", longest[:198] + "\x00"}

// sizes are those at the edges of chunks, and others.
var sizes = []int{0, 1, 2, 10, 63, 64, 65, 100, 127, 128, 129, 191, 192, 193, 640, 1000}

// files are names with their bytes.
type files map[string]string

// with are the files, and one more, or other bytes of one.
func (f files) with(name, b string) files {
	out := maps.Clone(f)
	out[name] = b
	return out
}

// without are the files but those of these names.
func (f files) without(names ...string) files {
	out := maps.Clone(f)
	for _, name := range names {
		delete(out, name)
	}
	return out
}

// cost is what all of them cost.
func (f files) cost() int {
	sum := 0
	for name, b := range f {
		sum += 16 + len(name) + len(b)
	}
	return sum
}

// seen is all that can be seen of a disk.
type seen struct {
	files     string
	free, ops int
	off       bool
}

// tell is all files, by their names.
func (f files) tell() string {
	var s strings.Builder
	for _, name := range slices.Sorted(maps.Keys(f)) {
		fmt.Fprintf(&s, "%q: %q\n", name, f[name])
	}
	return s.String()
}

// held are the files of a disk.
func held(d *disk.Disk) files {
	f := files{}
	for _, x := range d.Dump() {
		f[x.Name] = string(x.Bytes)
	}
	return f
}

// look is what is seen of a disk.
func look(d *disk.Disk) seen { return seen{held(d).tell(), d.Free(), d.Ops(), d.Off()} }

// loaded is a new disk with these files and so much room beside them.
func loaded(t *testing.T, free int, f files) *disk.Disk {
	t.Helper()
	var l []disk.File
	for name, b := range f {
		l = append(l, disk.File{Name: name, Bytes: []byte(b)})
	}
	d, err := disk.Load(free+f.cost(), l)
	if d == nil || err != api.OK {
		t.Fatalf("Load(%d, %q): %v, %v", free+f.cost(), f, d, err)
	}
	return d
}

// row is n bytes, of which no two pieces of a chunk are the same.
func row(n int) string {
	b := make([]byte, n)
	for i := range b {
		b[i] = byte(i + i/64*7)
	}
	return string(b)
}

// mustSave holds that a Save answers OK, and what is there then.
func mustSave(t *testing.T, d *disk.Disk, name, b string, ops int, want files) {
	t.Helper()
	all, was := d.Free()+held(d).cost(), d.Ops()
	if err := safe.Save(d, name, []byte(b)); err != api.OK {
		t.Errorf("Save(%q, %d bytes): %v", name, len(b), err)
	}
	if is, to := look(d), (seen{want.tell(), all - want.cost(), was + ops, false}); is != to {
		t.Errorf("Save(%q, %d bytes): is %v, want %v", name, len(b), is, to)
	}
}

// mustRefuse holds that a Save is refused, and turns nothing at all.
func mustRefuse(t *testing.T, d *disk.Disk, name, b string, want api.Errno) {
	t.Helper()
	was := look(d)
	if err := safe.Save(d, name, []byte(b)); err != want {
		t.Errorf("Save(%q, %d bytes): %v, want %v", name, len(b), err, want)
	}
	if is := look(d); is != was {
		t.Errorf("Save(%q, %d bytes), refused, turned %v to %v", name, len(b), was, is)
	}
}

// mustSweep holds what a Sweep answers, and what is there then.
func mustSweep(t *testing.T, d *disk.Disk, want api.Errno, ops int, off bool, f files) {
	t.Helper()
	all, was := d.Free()+held(d).cost(), d.Ops()
	if err := safe.Sweep(d); err != want {
		t.Errorf("Sweep: %v, want %v", err, want)
	}
	if is, to := look(d), (seen{f.tell(), all - f.cost(), was + ops, off}); is != to {
		t.Errorf("Sweep: is %v, want %v", is, to)
	}
}

// beside are files of which no Save of another name may turn one; some are called nearly as "a" and its shadow are.
var beside = files{"~": "none", "a~~": "shadow's", "aa": "like", "aa~": "like's", "~a": "ahead", "b": row(100), "b~": row(30), "\xff": ""}

// TestNeed (P5.1): a file's cost, the shadow's name, the bytes; a number below 0 counts as 0.
func TestNeed(t *testing.T) {
	for _, k := range []struct {
		name    string
		n, want int
	}{
		{"a", 80, 98}, {"a", 0, 18}, {"a", 1, 19}, {"a", 64, 82}, {"a", 65, 83}, {"a", -1, 18}, {"a", -17, 18}, {"a", -80, 18}, {"a", math.MinInt, 18},
		{"", 0, 17}, {"", 5, 22}, {"", -5, 17}, {"a~", 3, 22}, {"state", 1000, 1022}, {"é", 0, 19}, {"\x00", 1, 19},
		{longest, 0, 216}, {longest, 7, 223}, {longest, -7, 216}, {longest + "nn", 1, 219}, {strings.Repeat("n", 1<<16), 1, 1<<16 + 18},
		{"a", 1 << 20, 1<<20 + 18}, {"a", 1 << 40, 1<<40 + 18}, {longest, 1<<31 - 1, 1<<31 + 215},
	} {
		if n := safe.Need(k.name, k.n); n != k.want {
			t.Errorf("Need(%q, %d): %d, want %d", k.name, k.n, n, k.want)
		}
	}
}

// TestExample (P5.1, P5.2): the document's own.
func TestExample(t *testing.T) {
	d := loaded(t, 100, nil)
	mustSave(t, d, "a", row(80), 4, files{"a": row(80)})
	if safe.Need("a", 80) != 98 || d.Free() != 3 {
		t.Errorf("Need %d, Free %d", safe.Need("a", 80), d.Free())
	}
}

// TestSave (P5.2, P5.4): bytes of each size become the file's, in as many raw writes as there are chunks and two more, whatever the file was; no other file turns.
func TestSave(t *testing.T) {
	for _, n := range sizes {
		ops := max(1, (n+63)/64) + 2
		for _, was := range []files{beside, beside.with("a", ""), beside.with("a", "old"), beside.with("a", row(700)), {}, {"a": row(n)}} {
			d := loaded(t, 5000, was)
			mustSave(t, d, "a", row(n), ops, was.with("a", row(n)))
			mustSave(t, d, "a", "again", 3, was.with("a", "again"))
			mustSave(t, d, "a", row(n), ops, was.with("a", row(n)))
			shadow := was.with("a~", row(77))
			mustSave(t, loaded(t, 5000, shadow), "a", row(n), ops+1, was.with("a", row(n)))
		}
	}
	d := loaded(t, 1000, nil)
	if err := safe.Save(d, "nil", nil); err != api.OK || look(d).files != "\"nil\": \"\"\n" || d.Ops() != 3 {
		t.Errorf("%v, %v", err, look(d))
	}
}

// TestNamesThatMayBe (P5.2): of any bytes but 0, so many that the shadow's name has at most MaxName, the last one no "~".
func TestNamesThatMayBe(t *testing.T) {
	for _, name := range good {
		d := loaded(t, 1000, nil)
		mustSave(t, d, name, row(65), 4, files{name: row(65)})
		mustSave(t, d, name, "", 3, files{name: ""})
		mustSave(t, loaded(t, 1000, files{name + "~": "x"}), name, row(64), 4, files{name: row(64)})
	}
}

// TestNamesThatMayNotBe (P5.2): ErrArg ahead of every other error, and nothing turns, even where the file and its shadow are there.
func TestNamesThatMayNotBe(t *testing.T) {
	for _, free := range []int{0, 1 << 30} {
		for _, off := range []bool{false, true} {
			d := loaded(t, free, files{"~": "1", "~~": "2", "a~": "3", "a~~": "4", longest + "n": "5", longest + "~": "6", "a": "7"})
			d.Cut(0)
			if off {
				d.Sync("a")
			}
			for _, name := range bad {
				for _, n := range []int{0, 1, 65} {
					mustRefuse(t, d, name, row(n), api.ErrArg)
				}
			}
		}
	}
}

// TestRoom (P5.2): where just as much is free as Need asks, and where it is a byte less; the file that was counts all the while.
func TestRoom(t *testing.T) {
	for _, name := range []string{"a", "state", longest} {
		for _, n := range sizes {
			need := 17 + len(name) + n
			for _, was := range []files{{}, beside, {name: "", "b": "x"}, {name: row(n), "b": ""}, {name: row(2000)}} {
				mustSave(t, loaded(t, need, was), name, row(n), max(1, (n+63)/64)+2, was.with(name, row(n)))
				for _, free := range []int{need - 1, need - 17, need / 2, 1, 0} {
					mustRefuse(t, loaded(t, free, was), name, row(n), api.ErrNoSpace)
				}
			}
		}
	}
}

// TestRoomOfShadow (P5.2, P5.4): the shadow that is there is removed ahead of what is free being asked; if that is too little then, nothing else has turned.
func TestRoomOfShadow(t *testing.T) {
	for _, n := range sizes {
		for _, old := range []int{0, 1, 64, n, 300} {
			was := beside.with("a", "old").with("a~", row(old))
			done := was.without("a~").with("a", row(n))
			most := max(0, n-old) // with so much free beside the shadow there is just enough, or more
			mustSave(t, loaded(t, most, was), "a", row(n), max(1, (n+63)/64)+3, done)
			if n <= old {
				continue
			}
			d := loaded(t, most-1, was)
			if err := safe.Save(d, "a", []byte(row(n))); err != api.ErrNoSpace {
				t.Errorf("%v", err)
			}
			left := was.without("a~")
			if is, want := look(d), (seen{left.tell(), most - 1 + 18 + old, 1, false}); is != want {
				t.Errorf("is %v, want %v", is, want)
			}
			mustSave(t, d, "a", row(n-1), max(1, (n+62)/64)+2, left.with("a", row(n-1)))
		}
	}
}

// TestFirstError (P5.2): of several errors the one that is named first; a cut comes at a raw write alone.
func TestFirstError(t *testing.T) {
	was := files{"a": "old", "b": "", "b~": "left"}
	off := loaded(t, 1000, was)
	off.Cut(0)
	off.Sync("a")
	mustRefuse(t, off, "a", "x", api.ErrPower)
	mustRefuse(t, off, "b", "x", api.ErrPower) // its shadow stays
	mustRefuse(t, off, "a", row(2000), api.ErrPower)
	mustRefuse(t, off, "b", row(2000), api.ErrPower)
	mustRefuse(t, off, "b~", row(2000), api.ErrArg)

	d := loaded(t, 0, was)
	d.Cut(0)
	mustRefuse(t, d, "a", "x", api.ErrNoSpace) // the cut still comes, and not here
	d.Cut(0)
	for range 2 { // the shadow's removal is the cut, ahead of the want of room
		if err := safe.Save(d, "b", []byte(row(2000))); err != api.ErrPower || look(d) != (seen{was.tell(), 0, 0, true}) {
			t.Errorf("%v, %v", err, look(d))
		}
	}
	d.On()
	d.Cut(1)
	if err := safe.Save(d, "b", []byte(row(2000))); err != api.ErrNoSpace || look(d) != (seen{was.without("b~").tell(), 22, 1, false}) {
		t.Errorf("%v, %v", err, look(d))
	}
	if err := d.Sync("a"); err != api.ErrPower {
		t.Errorf("the cut behind the removal: %v", err)
	}
}

// TestNotMade (P5.2, P5.3): a disk that is nil, or that New has not made: ErrArg.
func TestNotMade(t *testing.T) {
	for _, d := range []*disk.Disk{nil, {}, new(disk.Disk)} {
		for _, name := range slices.Concat(good, bad) {
			for _, n := range []int{0, 1, 65} {
				mustRefuse(t, d, name, row(n), api.ErrArg)
			}
		}
		if err := safe.Sweep(d); err != api.ErrArg {
			t.Errorf("Sweep: %v", err)
		}
	}
}

// TestCutKnown (P5.2, P5.4): what is there behind each raw write of a Save that has a shadow to remove and two chunks to lay.
func TestCutKnown(t *testing.T) {
	was := files{"a": "old", "a~": "left", "b": "x"}
	want := []files{
		{"a": "old", "a~": "left", "b": "x"},
		{"a": "old", "b": "x"},
		{"a": "old", "a~": row(64), "b": "x"},
		{"a": "old", "a~": row(80), "b": "x"},
		{"a": "old", "a~": row(80), "b": "x"},
		{"a": row(80), "b": "x"},
	}
	for n, w := range want {
		d := loaded(t, 200, was)
		d.Cut(n)
		err := safe.Save(d, "a", []byte(row(80)))
		if cut := n < 5; err == api.ErrPower != cut || err == api.OK == cut || d.Off() != cut {
			t.Errorf("cut at %d: %v, Off %t", n, err, d.Off())
		}
		if held(d).tell() != w.tell() || d.Ops() != n {
			t.Errorf("cut at %d: %q, Ops %d, want %q", n, held(d), d.Ops(), w)
		}
	}
}

// plain is what the document says of Save and Sweep, word for word, on files that are a map.
type plain struct {
	capacity  int
	files     files
	ops, last int // last: the ops at which the cut comes; -1: none
	off       bool
}

// turn is a raw write that makes these the files.
func (p *plain) turn(f files) api.Errno {
	if p.off || p.ops == p.last {
		p.off = true
		return api.ErrPower
	}
	p.files = f
	p.ops++
	return api.OK
}

// save is P5.2.
func (p *plain) save(name, b string) api.Errno {
	shadow := name + "~"
	if len(name) == 0 || len(shadow) > 200 || strings.Contains(name, "\x00") || name[len(name)-1] == '~' {
		return api.ErrArg
	}
	if p.off {
		return api.ErrPower
	}
	if _, ok := p.files[shadow]; ok {
		if err := p.turn(p.files.without(shadow)); err != api.OK {
			return err
		}
	}
	if p.capacity-p.files.cost() < 16+len(shadow)+len(b) {
		return api.ErrNoSpace
	}
	for at := 0; at == 0 || at < len(b); at += 64 {
		if err := p.turn(p.files.with(shadow, b[:min(at+64, len(b))])); err != api.OK {
			return err
		}
	}
	if err := p.turn(p.files); err != api.OK {
		return err
	}
	return p.turn(p.files.without(shadow).with(name, b))
}

// sweep is P5.3.
func (p *plain) sweep() api.Errno {
	for _, name := range slices.Sorted(maps.Keys(p.files)) {
		if !strings.HasSuffix(name, "~") {
			continue
		}
		if err := p.turn(p.files.without(name)); err != api.OK {
			return err
		}
	}
	return api.OK
}

// look is what is seen of it.
func (p *plain) look() seen {
	return seen{p.files.tell(), p.capacity - p.files.cost(), p.ops, p.off}
}

// cutSave cuts a Save at a raw write, holds P5.4, and tells whether the cut came within it.
func cutSave(t *testing.T, was files, name, b string, ops int) bool {
	t.Helper()
	free := 20 + 16 + len(name) + 1 + len(b)
	d, p := loaded(t, free, was), &plain{free + was.cost(), was, 0, ops, false}
	d.Cut(ops)
	err := safe.Save(d, name, []byte(b))
	if want := p.save(name, b); err != want || look(d) != p.look() {
		t.Errorf("%q, %d bytes, cut at %d: %v, want %v; is %v, want %v", name, len(b), ops, err, want, look(d), p.look())
	}
	is := held(d)
	old, there := was[name]
	now, stands := is[name]
	if (now != old || stands != there) && (now != b || !stands) {
		t.Errorf("%q, %d bytes, cut at %d: %q is neither what it was nor what was to be", name, len(b), ops, now)
	}
	if is.without(name, name+"~").tell() != was.without(name, name+"~").tell() {
		t.Errorf("%q, %d bytes, cut at %d: other files were turned: %q", name, len(b), ops, is)
	}
	cut := d.Off()
	d.On()
	if err := safe.Sweep(d); err != api.OK || d.Has(name+"~") {
		t.Errorf("%q, cut at %d: Sweep: %v, a shadow: %t", name, ops, err, d.Has(name+"~"))
	}
	if b, _ := d.Read(name); string(b) != now {
		t.Errorf("%q, cut at %d: Sweep turned %q to %q", name, ops, now, b)
	}
	return cut
}

// TestCutAnywhere (P5.4): cut at each raw write of a Save in turn, name is what it was or what was to be, whole; no other file has turned but the shadow, and Sweep removes that.
func TestCutAnywhere(t *testing.T) {
	for _, name := range []string{"a", "new", longest} {
		for _, n := range sizes {
			for _, was := range []files{{}, beside, beside.with(name, ""), beside.with(name, row(150)), beside.with(name, row(n))} {
				for _, was := range []files{was, was.with(name+"~", ""), was.with(name+"~", row(200))} {
					cuts := 0
					for cutSave(t, was, name, row(n), cuts) {
						cuts++
					}
					if _, shadow := was[name+"~"]; cuts != max(1, (n+63)/64)+2 && !shadow {
						t.Errorf("%q, %d bytes: %d raw writes", name, n, cuts)
					}
				}
			}
		}
	}
}

// TestSaveBehindCut (P5.4): cut again and again, a Save that ends at last leaves its file and no shadow, without a Sweep, too.
func TestSaveBehindCut(t *testing.T) {
	was := beside.with("a", "old")
	for _, n := range sizes {
		d := loaded(t, 18+n, was) // just enough: what a cut left must make room
		for ops := range max(1, (n+63)/64) + 3 {
			d.Cut(ops)
			safe.Save(d, "a", []byte(row(n)))
			if is := held(d); is.without("a~").tell() != was.tell() {
				t.Fatalf("cut at %d: %q", ops, is)
			}
			if !d.Off() {
				t.Fatalf("%d bytes, cut at %d: not off", n, ops)
			}
			d.On()
		}
		mustSave(t, d, "a", row(n), max(1, (n+63)/64)+3, was.with("a", row(n)))
	}
}

// shadows are files of which Sweep removes some, in the order in which it does.
var shadows = []string{"\x01~", "a/~", "aa~", "a~", "a~b~", "b~", longest + "~", "~", "~~", "\x7f~", "\xff~"}

// kept are files that it leaves.
var kept = files{"a": "1", "~a": "2", "a~b": "3", "~ ": "", "a~/b": row(100), longest + "n": "4", "~\xff": "5", "\xff": "6"}

// TestSweep (P5.3): just the files whose names end by "~" are removed, in order, a raw write each.
func TestSweep(t *testing.T) {
	if !slices.IsSorted(shadows) {
		t.Fatal("out of order")
	}
	all := maps.Clone(kept)
	for i, name := range shadows {
		all[name] = row(i * 30)
		mustSweep(t, loaded(t, i, kept.with(name, row(i))), api.OK, 1, false, kept)
	}
	d := loaded(t, 0, all)
	mustSweep(t, d, api.OK, len(shadows), false, kept)
	mustSweep(t, d, api.OK, 0, false, kept)
	mustSweep(t, loaded(t, 0, nil), api.OK, 0, false, nil)
	mustSweep(t, loaded(t, 0, files{"~": ""}), api.OK, 1, false, nil)
	for n := range shadows { // its own removals meet the cut
		d := loaded(t, 0, all)
		d.Cut(n)
		left := all.without(shadows[:n]...)
		mustSweep(t, d, api.ErrPower, n, true, left)
		mustSweep(t, d, api.ErrPower, 0, true, left)
		d.On()
		mustSweep(t, d, api.OK, len(shadows)-n, false, kept)
	}
	d = loaded(t, 0, all)
	d.Cut(len(shadows)) // the cut comes behind the last one
	mustSweep(t, d, api.OK, len(shadows), false, kept)
	if err := d.Sync("a"); err != api.ErrPower {
		t.Errorf("the cut behind Sweep: %v", err)
	}
	mustSweep(t, d, api.OK, 0, true, kept) // off, and nothing to remove
}

// dice is a row of numbers that is the same in each run of the tests.
type dice uint64

// below is the next number, below n.
func (d *dice) below(n int) int {
	*d = *d*6364136223846793005 + 1442695040888963407
	return int(uint64(*d)>>33) % n
}

// TestPlain (P5.2 to P5.4): long runs of saves, sweeps, other raw writes and cuts, held against the document's words.
func TestPlain(t *testing.T) {
	names := []string{"a", "b", "ab", longest, "~a", "a~", ""}
	met := map[api.Errno]int{}
	for n := range 300 {
		seed := dice(n)
		p := &plain{200 + seed.below(1000), files{}, 0, -1, false}
		d := loaded(t, p.capacity, nil)
		for range 100 {
			got, want := api.OK, api.OK
			switch seed.below(8) {
			case 0:
				got, want = safe.Sweep(d), p.sweep()
			case 1:
				p.last = p.ops + seed.below(12)
				d.Cut(p.last - p.ops)
			case 2:
				p.off, p.last = false, -1
				d.On()
			case 3:
				name := names[seed.below(len(names)-1)]
				if _, ok := p.files[name]; ok {
					got, want = d.Remove(name), p.turn(p.files.without(name))
				}
			default:
				name, b := names[seed.below(len(names))], row(seed.below(300))
				got, want = safe.Save(d, name, []byte(b)), p.save(name, b)
			}
			if met[got]++; got != want || look(d) != p.look() {
				t.Fatalf("%v, want %v; is %v, want %v", got, want, look(d), p.look())
			}
		}
	}
	for _, err := range []api.Errno{api.OK, api.ErrArg, api.ErrNoSpace, api.ErrPower} {
		if met[err] < 100 {
			t.Errorf("%v was met %d times", err, met[err])
		}
	}
}

// TestHandedIn (R3): what is handed in is as it was, the room behind it, too, and is not kept; nor is anything of a Save kept for the next one.
func TestHandedIn(t *testing.T) {
	for _, n := range sizes {
		d := loaded(t, 5000, nil)
		room := []byte(row(n + 100))
		for _, name := range []string{"a", "b", "a"} {
			if err := safe.Save(d, name, room[:n]); err != api.OK || string(room) != row(n+100) {
				t.Errorf("%v, %q", err, room)
			}
		}
		was := look(d)
		clear(room)
		if is := look(d); is != was {
			t.Errorf("is %v, was %v", is, was)
		}
		d.Append("a", []byte("more"))
		if want := (files{"a": row(n) + "more", "b": row(n)}); look(d).files != want.tell() || string(room) != strings.Repeat("\x00", n+100) {
			t.Errorf("is %q, want %q; handed in was %q", held(d), want, room)
		}
	}
}

// TestGreat (P5.2): as long a file as a file may be, in good time.
func TestGreat(t *testing.T) {
	d := loaded(t, 1<<22, nil)
	want := bytes.Repeat([]byte("stone   "), 1<<17)
	for i := range 3 {
		if err := safe.Save(d, "great", want); err != api.OK || d.Ops() != (i+1)*(1<<14+2) {
			t.Errorf("%v, Ops %d", err, d.Ops())
		}
	}
	if b, err := d.Read("great"); err != api.OK || !bytes.Equal(b, want) || d.Free() != 1<<22-21-1<<20 || len(d.Names()) != 1 {
		t.Errorf("%d bytes, %v, Free %d, %q", len(b), err, d.Free(), d.Names())
	}
}

// TestAllEnd (P1): every call ends and none panics, whatever it is given.
func TestAllEnd(t *testing.T) {
	disks := []*disk.Disk{nil, {}, loaded(t, 0, nil), loaded(t, 50, nil), loaded(t, 1<<30, nil), loaded(t, 100, beside)}
	for range 2 {
		for _, d := range disks {
			for _, name := range slices.Concat(good, bad, shadows) {
				for _, n := range []int{math.MinInt, -1, 0, 1, 1 << 40, math.MaxInt} {
					safe.Need(name, n)
				}
				safe.Save(d, name, nil)
				for i, n := range sizes {
					d.Cut(i % 5)
					safe.Save(d, name, []byte(row(n)))
					d.On()
				}
			}
			safe.Sweep(d)
			d.Cut(0)
			safe.Save(d, "a", nil)
			safe.Sweep(d)
		}
	}
}
