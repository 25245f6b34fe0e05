package disk_test

import (
	"bytes"
	"cmp"
	"fmt"
	"math"
	"slices"
	"strings"
	"testing"

	"dolmen/api"
	"dolmen/disk"
)

// longest is a name of MaxName bytes.
var longest = strings.Repeat("n", 200)

// good are names that may be.
var good = []string{"a", "~", "/", "..", " ", "\n", "\x01", "\xff", "\xc3\x28", "a/b~", "0", "heads/main", longest, longest[:199], strings.Repeat("\xff", 200)}

// bad are names that may not be.
var bad = []string{"", longest + "n", strings.Repeat("é", 101), strings.Repeat("n", 1<<16), "\x00", "\x00a", "a\x00", "a\x00b", longest[:199] + "\x00"}

// seen is all that can be seen of a disk.
type seen struct {
	files     string
	free, ops int
	off       bool
}

// look is what is seen of a disk; all its views must tell the same.
func look(t *testing.T, d *disk.Disk) seen {
	t.Helper()
	names, files := d.Names(), d.Dump()
	if len(names) != len(files) {
		t.Fatalf("Names %q, Dump %q", names, files)
	}
	var s strings.Builder
	for i, f := range files {
		b, err := d.Read(f.Name)
		if f.Name != names[i] || !d.Has(f.Name) || err != api.OK || !bytes.Equal(b, f.Bytes) {
			t.Errorf("%q: Names %q, Has %t, Read %q %v, Dump %q", f.Name, names[i], d.Has(f.Name), b, err, f.Bytes)
		}
		if i > 0 && names[i-1] >= f.Name {
			t.Errorf("%q stands ahead of %q", names[i-1], f.Name)
		}
		fmt.Fprintf(&s, "%q: %q\n", f.Name, f.Bytes)
	}
	return seen{s.String(), d.Free(), d.Ops(), d.Off()}
}

// made is a new disk.
func made(t *testing.T, capacity int) *disk.Disk {
	t.Helper()
	d, err := disk.New(capacity)
	if d == nil || err != api.OK {
		t.Fatalf("New(%d): %v, %v", capacity, d, err)
	}
	return d
}

// loaded is a new disk with files.
func loaded(t *testing.T, capacity int, l ...disk.File) *disk.Disk {
	t.Helper()
	d, err := disk.Load(capacity, l)
	if d == nil || err != api.OK {
		t.Fatalf("Load(%d, %q): %v, %v", capacity, l, d, err)
	}
	return d
}

// file is one of that name with these bytes.
func file(name, b string) disk.File { return disk.File{Name: name, Bytes: []byte(b)} }

// write is a raw write.
type write struct {
	what     string // Append, Remove, Rename or Sync
	name, to string // to is an Append's bytes, a Rename's new name
}

// do does it.
func (w write) do(d *disk.Disk) api.Errno {
	switch w.what {
	case "Append":
		return d.Append(w.name, []byte(w.to))
	case "Remove":
		return d.Remove(w.name)
	case "Rename":
		return d.Rename(w.name, w.to)
	}
	return d.Sync(w.name)
}

// mustDo holds that the raw write is done, and counted.
func mustDo(t *testing.T, d *disk.Disk, w write) {
	t.Helper()
	ops := d.Ops()
	if err := w.do(d); err != api.OK || d.Ops() != ops+1 || d.Off() {
		t.Errorf("%q: %v, Ops %d behind %d, Off %t", w, err, d.Ops(), ops, d.Off())
	}
}

// mustRefuse holds that the raw write is refused, and turns nothing.
func mustRefuse(t *testing.T, d *disk.Disk, w write, want api.Errno) {
	t.Helper()
	was := look(t, d)
	if err := w.do(d); err != want {
		t.Errorf("%q: %v, want %v", w, err, want)
	}
	if is := look(t, d); is != was {
		t.Errorf("%q, refused, turned %v to %v", w, was, is)
	}
}

// mustCut holds that the cut comes at the raw write, and turns nothing but the power.
func mustCut(t *testing.T, d *disk.Disk, w write) {
	t.Helper()
	was := look(t, d)
	if err := w.do(d); err != api.ErrPower || was.off {
		t.Errorf("%q at the cut: %v, off ahead of it: %t", w, err, was.off)
	}
	was.off = true
	if is := look(t, d); is != was {
		t.Errorf("%q, cut, turned %v to %v", w, was, is)
	}
}

// mustHave holds what files there are, how much is free, and how many raw writes were done.
func mustHave(t *testing.T, d *disk.Disk, free, ops int, l ...disk.File) {
	t.Helper()
	is := look(t, d)
	var s strings.Builder
	for _, f := range l {
		fmt.Fprintf(&s, "%q: %q\n", f.Name, f.Bytes)
	}
	if want := (seen{s.String(), free, ops, is.off}); is != want {
		t.Errorf("is %v, want %v", is, want)
	}
}

// writes are one of each kind, all of which the disk of two does, if they come alone.
var writes = []write{
	{"Append", "a", "x"}, {"Append", "a", ""}, {"Append", "new", "x"}, {"Append", "new", ""},
	{"Remove", "a", ""}, {"Rename", "a", "b"}, {"Rename", "a", "new"}, {"Rename", "a", "a"}, {"Sync", "a", ""},
}

// two is a disk with two files, and room for 100 bytes more.
func two(t *testing.T) *disk.Disk {
	t.Helper()
	return loaded(t, 139, file("a", "abc"), file("b", "de"))
}

// TestNew (P4.1): a capacity is 0 to MaxNum; a new disk has no files, power, no cut to come, and all of its capacity free.
func TestNew(t *testing.T) {
	for _, capacity := range []int{0, 1, 16, 17, 100, 1 << 20, 1<<40 - 1, 1 << 40} {
		d := made(t, capacity)
		mustHave(t, d, capacity, 0)
		if d.Off() {
			t.Errorf("New(%d) is off", capacity)
		}
	}
	for _, capacity := range []int{-1, -2, math.MinInt, 1<<40 + 1, 1 << 41, math.MaxInt} {
		if d, err := disk.New(capacity); d != nil || err != api.ErrArg {
			t.Errorf("New(%d): %v, %v", capacity, d, err)
		}
	}
	d := made(t, 1000)
	for range 100 {
		mustDo(t, d, write{"Append", "a", "x"})
	}
}

// TestFree (P4.1): what is free is the capacity less what all files cost.
func TestFree(t *testing.T) {
	d := made(t, 1000)
	mustDo(t, d, write{"Append", "a", ""})
	mustHave(t, d, 983, 1, file("a", ""))
	mustDo(t, d, write{"Append", "a", "0123456789"})
	mustHave(t, d, 973, 2, file("a", "0123456789"))
	mustDo(t, d, write{"Append", longest, "x"})
	mustHave(t, d, 756, 3, file("a", "0123456789"), file(longest, "x"))
	mustDo(t, d, write{"Rename", longest, "bc"})
	mustHave(t, d, 954, 4, file("a", "0123456789"), file("bc", "x"))
	mustDo(t, d, write{"Remove", "a", ""})
	mustHave(t, d, 981, 5, file("bc", "x"))
	mustDo(t, d, write{"Remove", "bc", ""})
	mustHave(t, d, 1000, 6)
}

// TestNotMade (P4.1): a disk that is nil, or that New has not made, answers ErrArg wherever it answers an error; it has no files, and is off, On or not.
func TestNotMade(t *testing.T) {
	for _, d := range []*disk.Disk{nil, {}, new(disk.Disk)} {
		for range 2 {
			for _, w := range []write{{"Append", "a", "x"}, {"Append", "a", ""}, {"Append", "", longest}, {"Remove", "a", ""}, {"Remove", "", ""}, {"Rename", "a", "b"}, {"Rename", "a", "a"}, {"Sync", "a", ""}, {"Sync", "", ""}} {
				mustRefuse(t, d, w, api.ErrArg)
			}
			for _, name := range slices.Concat(good, bad) {
				if b, err := d.Read(name); b != nil || err != api.ErrArg || d.Has(name) {
					t.Errorf("Read(%q): %q, %v, Has %t", name, b, err, d.Has(name))
				}
			}
			for _, ops := range []int{math.MinInt, -1, 0, 1, math.MaxInt} {
				if err := d.Cut(ops); err != api.ErrArg {
					t.Errorf("Cut(%d): %v", ops, err)
				}
			}
			if is := look(t, d); is != (seen{off: true}) {
				t.Errorf("is %v", is)
			}
			d.On()
		}
	}
}

// TestExample (P4.1 to P4.4): the document's own.
func TestExample(t *testing.T) {
	d := made(t, 100)
	mustDo(t, d, write{"Append", "a", "0123456789"})
	mustHave(t, d, 73, 1, file("a", "0123456789"))
	if err := d.Cut(1); err != api.OK {
		t.Error(err)
	}
	mustDo(t, d, write{"Append", "a", ""})
	mustCut(t, d, write{"Append", "a", "x"})
	d.On()
	mustDo(t, d, write{"Append", "a", "x"})
	mustHave(t, d, 72, 3, file("a", "0123456789x"))
}

// TestNamesThatMayBe (P4.2): names of 1 and of MaxName bytes, of any bytes but 0.
func TestNamesThatMayBe(t *testing.T) {
	for _, name := range good {
		d := made(t, 1000)
		mustDo(t, d, write{"Append", name, "x"})
		mustHave(t, d, 983-len(name), 1, file(name, "x"))
		mustDo(t, d, write{"Sync", name, ""})
		mustDo(t, d, write{"Rename", name, "other"})
		mustHave(t, d, 978, 3, file("other", "x"))
		mustDo(t, d, write{"Rename", "other", name})
		mustHave(t, d, 983-len(name), 4, file(name, "x"))
		mustDo(t, d, write{"Remove", name, ""})
		mustHave(t, d, 1000, 5)
	}
}

// TestNamesThatMayNotBe (P4.2, P4.3): no bytes, more than MaxName of them, a 0 among them: ErrArg of all but Has, ahead of every other error.
func TestNamesThatMayNotBe(t *testing.T) {
	off := two(t)
	off.Cut(0)
	mustCut(t, off, write{"Sync", "a", ""})
	for _, d := range []*disk.Disk{two(t), made(t, 0), made(t, 1<<40), off} {
		d.Cut(0)
		for _, name := range bad {
			for _, w := range []write{{"Append", name, ""}, {"Append", name, "x"}, {"Append", name, longest}, {"Remove", name, ""}, {"Rename", name, "a"}, {"Rename", "a", name}, {"Rename", "none", name}, {"Rename", name, name}, {"Sync", name, ""}} {
				mustRefuse(t, d, w, api.ErrArg)
			}
			if b, err := d.Read(name); b != nil || err != api.ErrArg || d.Has(name) {
				t.Errorf("Read(%q): %q, %v, Has %t", name, b, err, d.Has(name))
			}
		}
	}
}

// TestAppend (P4.2): no bytes make a file, too; others are laid behind those that are there; at most MaxChunk at once.
func TestAppend(t *testing.T) {
	d := made(t, 1000)
	mustDo(t, d, write{"Append", "a", ""})
	mustHave(t, d, 983, 1, file("a", ""))
	mustDo(t, d, write{"Append", "a", ""})
	mustHave(t, d, 983, 2, file("a", ""))
	want := ""
	for n := range 65 {
		b := (longest[:62] + "\x00\xff")[64-n:]
		d := made(t, 1000)
		mustDo(t, d, write{"Append", "a", b})
		mustHave(t, d, 983-n, 1, file("a", b))
		mustDo(t, d, write{"Append", "a", "z"})
		mustHave(t, d, 982-n, 2, file("a", b+"z"))
	}
	for _, n := range []int{64, 63, 1, 0, 64} {
		mustDo(t, d, write{"Append", "a", longest[:n]})
		want += longest[:n]
	}
	mustHave(t, d, 983-len(want), 7, file("a", want))
	for _, n := range []int{65, 66, 100, 128, 200} {
		mustRefuse(t, d, write{"Append", "a", longest[:n]}, api.ErrArg)
		mustRefuse(t, d, write{"Append", "b", longest[:n]}, api.ErrArg)
	}
	if err := d.Append("a", make([]byte, 1<<20)); err != api.ErrArg {
		t.Error(err)
	}
	if err := d.Append("nil", nil); err != api.OK {
		t.Error(err)
	}
	mustHave(t, d, 964-len(want), 8, file("a", want), file("nil", ""))
}

// TestAppendRoom (P4.2): a file that just fits, and one that is a byte too much; no bytes to a file that is there fit always.
func TestAppendRoom(t *testing.T) {
	for _, name := range []string{"a", "abc", longest} {
		for _, n := range []int{0, 1, 10, 64} {
			all := 16 + len(name) + n
			for _, capacity := range []int{0, 1, 16, 16 + len(name) - 1, all - 1} {
				if capacity < all {
					mustRefuse(t, made(t, capacity), write{"Append", name, longest[:n]}, api.ErrNoSpace)
				}
			}
			d := made(t, all)
			mustDo(t, d, write{"Append", name, longest[:n]})
			mustHave(t, d, 0, 1, file(name, longest[:n]))
			mustDo(t, d, write{"Append", name, ""})
			mustRefuse(t, d, write{"Append", name, "x"}, api.ErrNoSpace)
			mustRefuse(t, d, write{"Append", "b", ""}, api.ErrNoSpace)
			mustHave(t, d, 0, 2, file(name, longest[:n]))
		}
	}
	d := loaded(t, 100, file("a", ""))
	mustRefuse(t, d, write{"Append", "a", longest[:64] + longest[:20]}, api.ErrArg)
	mustDo(t, d, write{"Append", "a", longest[:60]})
	mustRefuse(t, d, write{"Append", "a", longest[:24]}, api.ErrNoSpace)
	mustRefuse(t, d, write{"Append", "b", longest[:7]}, api.ErrNoSpace)
	mustDo(t, d, write{"Append", "b", longest[:6]})
	mustHave(t, d, 0, 2, file("a", longest[:60]), file("b", longest[:6]))
}

// TestRemove (P4.2): the file is taken away, no other one, and what it cost is free.
func TestRemove(t *testing.T) {
	d := loaded(t, 57, file("a", "abc"), file("ab", ""), file("b", ""))
	mustRefuse(t, d, write{"Remove", "c", ""}, api.ErrNoFile)
	mustDo(t, d, write{"Remove", "a", ""})
	mustHave(t, d, 22, 1, file("ab", ""), file("b", ""))
	mustRefuse(t, d, write{"Remove", "a", ""}, api.ErrNoFile)
	mustDo(t, d, write{"Append", "a", "xyz"})
	mustHave(t, d, 2, 2, file("a", "xyz"), file("ab", ""), file("b", ""))
	for _, name := range []string{"ab", "b", "a"} {
		mustDo(t, d, write{"Remove", name, ""})
	}
	mustHave(t, d, 57, 5)
	mustRefuse(t, d, write{"Remove", "a", ""}, api.ErrNoFile)
}

// TestRename (P4.2): to itself, to a longer and to a shorter name, and onto a file that is there.
func TestRename(t *testing.T) {
	for _, k := range []struct {
		from, to string
		free     int
		files    []disk.File
	}{
		{"b", "b", 50, []disk.File{file("b", "abc"), file("c", "de")}},
		{"b", "a", 50, []disk.File{file("a", "abc"), file("c", "de")}},
		{"b", "d", 50, []disk.File{file("c", "de"), file("d", "abc")}},
		{"b", "bbb", 48, []disk.File{file("bbb", "abc"), file("c", "de")}},
		{"b", "c", 69, []disk.File{file("c", "abc")}},
		{"c", "b", 70, []disk.File{file("b", "de")}},
		{"c", "c", 50, []disk.File{file("b", "abc"), file("c", "de")}},
	} {
		d := loaded(t, 89, file("b", "abc"), file("c", "de"))
		mustDo(t, d, write{"Rename", k.from, k.to})
		mustHave(t, d, k.free, 1, k.files...)
	}
	d := loaded(t, 500, file("long/name", "abc"))
	mustDo(t, d, write{"Rename", "long/name", "s"})
	mustHave(t, d, 480, 1, file("s", "abc"))
	mustDo(t, d, write{"Append", "long/name", "x"})
	mustDo(t, d, write{"Append", "s", "d"})
	mustHave(t, d, 453, 3, file("long/name", "x"), file("s", "abcd"))
	mustDo(t, d, write{"Rename", "s", "long/name"})
	mustHave(t, d, 471, 4, file("long/name", "abcd"))
	mustDo(t, d, write{"Rename", "long/name", "long/name"})
	mustHave(t, d, 471, 5, file("long/name", "abcd"))
	for _, to := range []string{"s", "none", "long/name"} {
		mustRefuse(t, d, write{"Rename", "none", to}, api.ErrNoFile)
	}
}

// TestRenameRoom (P4.2): where just as much is free as the longer name costs, and a byte less; other names need no room.
func TestRenameRoom(t *testing.T) {
	for _, to := range []string{"abcd", "abcde", longest} {
		longer := len(to) - 3
		d := loaded(t, 21+longer, file("abc", "de"))
		mustDo(t, d, write{"Rename", "abc", to})
		mustHave(t, d, 0, 1, file(to, "de"))
		for free := range longer {
			d := loaded(t, 21+free, file("abc", "de"))
			mustRefuse(t, d, write{"Rename", "abc", to}, api.ErrNoSpace)
		}
	}
	for _, to := range []string{"a", "xy", "xyz", "abc"} {
		d := loaded(t, 21, file("abc", "de"))
		mustDo(t, d, write{"Rename", "abc", to})
		mustHave(t, d, 3-len(to), 1, file(to, "de"))
	}
	d := loaded(t, 233, file(longest, ""), file("a", "")) // full: onto a file that is there, with a longer name
	mustRefuse(t, d, write{"Rename", "a", "ab"}, api.ErrNoSpace)
	mustDo(t, d, write{"Rename", "a", longest})
	mustHave(t, d, 17, 1, file(longest, ""))
}

// TestSync (P4.2): a raw write that turns no file.
func TestSync(t *testing.T) {
	d := loaded(t, 20, file("a", "abc"))
	mustDo(t, d, write{"Sync", "a", ""})
	mustHave(t, d, 0, 1, file("a", "abc"))
	mustRefuse(t, d, write{"Sync", "b", ""}, api.ErrNoFile)
	mustRefuse(t, d, write{"Sync", "abc", ""}, api.ErrNoFile)
}

// TestFirstError (P4.2): of several errors the one that is named first.
func TestFirstError(t *testing.T) {
	refused := []struct {
		w       write
		on, off api.Errno // with the power on, and off
	}{
		{write{"Append", "", "x"}, api.ErrArg, api.ErrArg},
		{write{"Append", "a", longest[:65]}, api.ErrArg, api.ErrArg},
		{write{"Append", "new", longest[:65]}, api.ErrArg, api.ErrArg},
		{write{"Append", "a", "x"}, api.ErrNoSpace, api.ErrPower},
		{write{"Append", "new", ""}, api.ErrNoSpace, api.ErrPower},
		{write{"Remove", "a\x00", ""}, api.ErrArg, api.ErrArg},
		{write{"Remove", "new", ""}, api.ErrNoFile, api.ErrPower},
		{write{"Rename", "new", ""}, api.ErrArg, api.ErrArg},
		{write{"Rename", "", "new"}, api.ErrArg, api.ErrArg},
		{write{"Rename", "a", longest + "n"}, api.ErrArg, api.ErrArg},
		{write{"Rename", "new", "newer"}, api.ErrNoFile, api.ErrPower},
		{write{"Rename", "new", "a"}, api.ErrNoFile, api.ErrPower},
		{write{"Rename", "new", "new"}, api.ErrNoFile, api.ErrPower},
		{write{"Rename", "a", "new"}, api.ErrNoSpace, api.ErrPower},
		{write{"Sync", longest + "n", ""}, api.ErrArg, api.ErrArg},
		{write{"Sync", "new", ""}, api.ErrNoFile, api.ErrPower},
	}
	for _, r := range refused {
		d := loaded(t, 20, file("a", "abc"))
		mustRefuse(t, d, r.w, r.on)
		d.Cut(0) // what is refused is no raw write: the cut does not come at it, but at the next
		mustRefuse(t, d, r.w, r.on)
		mustCut(t, d, write{"Sync", "a", ""})
		mustRefuse(t, d, r.w, r.off)
		d.On()
		mustRefuse(t, d, r.w, r.on)
		d.Cut(1) // nor is it counted ahead of the cut
		mustRefuse(t, d, r.w, r.on)
		mustDo(t, d, write{"Sync", "a", ""})
		mustRefuse(t, d, r.w, r.on)
		mustCut(t, d, write{"Sync", "a", ""})
		mustHave(t, d, 0, 1, file("a", "abc"))
	}
}

// TestRead (P4.3): ErrArg and ErrNoFile, or the file's bytes.
func TestRead(t *testing.T) {
	d := loaded(t, 1000, file("a", "abc"), file("b", ""), file("c\n", "\x00\xff"))
	for _, f := range []disk.File{file("a", "abc"), file("b", ""), file("c\n", "\x00\xff")} {
		if b, err := d.Read(f.Name); !bytes.Equal(b, f.Bytes) || err != api.OK || !d.Has(f.Name) {
			t.Errorf("Read(%q): %q, %v, Has %t", f.Name, b, err, d.Has(f.Name))
		}
	}
	for _, name := range []string{"c", "A", "a ", "ab", "c\n\n", longest} {
		if b, err := d.Read(name); b != nil || err != api.ErrNoFile || d.Has(name) {
			t.Errorf("Read(%q): %q, %v, Has %t", name, b, err, d.Has(name))
		}
	}
}

// TestNames (P4.3): all names, the lesser ones first, by their bytes.
func TestNames(t *testing.T) {
	l := []string{"\x01", " ", "/", "0", "10", "9", "A", "B", "a", "a\x01", "a/", "a/b", "aa", "aaa", "ab", "b", "~", "é", "\xff", "\xff\x01"}
	for shift := range l {
		d := made(t, 1000)
		for i := range l {
			mustDo(t, d, write{"Append", l[(shift+7*i)%len(l)], "x"})
		}
		if names := d.Names(); !slices.Equal(names, l) {
			t.Errorf("%q", names)
		}
		for i, f := range d.Dump() {
			if f.Name != l[i] || string(f.Bytes) != "x" {
				t.Errorf("%d: %q", i, f)
			}
		}
	}
}

// TestPowerOff (P4.2, P4.3): with the power off no raw write is done; what only looks is answered as with the power on.
func TestPowerOff(t *testing.T) {
	d := two(t)
	mustDo(t, d, write{"Append", "a", "d"})
	on := look(t, d)
	d.Cut(0)
	mustCut(t, d, write{"Append", "a", "e"})
	for _, w := range writes {
		mustRefuse(t, d, w, api.ErrPower)
	}
	mustHave(t, d, 99, 1, file("a", "abcd"), file("b", "de"))
	off := look(t, d)
	if off.off = !off.off; off != on {
		t.Errorf("on %v, off %v", on, off)
	}
	if b, err := d.Read("c"); b != nil || err != api.ErrNoFile {
		t.Errorf("Read: %q, %v", b, err)
	}
	if b, err := d.Read(""); b != nil || err != api.ErrArg {
		t.Errorf("Read: %q, %v", b, err)
	}
	d.On()
	if is := look(t, d); is != on {
		t.Errorf("on %v, on again %v", on, is)
	}
}

// TestCut (P4.4): that many more raw writes are done, then the next one is the cut, whatever it is.
func TestCut(t *testing.T) {
	for n := range 6 {
		for _, w := range writes {
			d := two(t)
			mustDo(t, d, write{"Sync", "a", ""})
			if err := d.Cut(n); err != api.OK || d.Off() {
				t.Errorf("Cut(%d): %v, Off %t", n, err, d.Off())
			}
			for range n {
				mustDo(t, d, write{"Append", "a", "y"})
			}
			mustCut(t, d, w)
			mustRefuse(t, d, w, api.ErrPower)
			mustHave(t, d, 100-n, n+1, file("a", "abc"+strings.Repeat("y", n)), file("b", "de"))
			d.On()
			for range n + 3 { // no cut is to come
				mustDo(t, d, write{"Append", "b", "z"})
			}
			mustDo(t, d, w)
		}
	}
}

// TestCutArg (P4.4): below 0 is ErrArg and turns nothing, not the cut to come; the greatest numbers are a cut that is far.
func TestCutArg(t *testing.T) {
	d := two(t)
	d.Cut(2)
	mustDo(t, d, write{"Sync", "a", ""})
	for _, ops := range []int{-1, -2, math.MinInt} {
		if err := d.Cut(ops); err != api.ErrArg {
			t.Errorf("Cut(%d): %v", ops, err)
		}
	}
	mustDo(t, d, write{"Sync", "a", ""})
	mustCut(t, d, write{"Sync", "a", ""})
	if err := d.Cut(-1); err != api.ErrArg {
		t.Error(err)
	}
	d.On()
	for _, ops := range []int{100, 1 << 40, math.MaxInt - 1, math.MaxInt} {
		if err := d.Cut(ops); err != api.OK {
			t.Errorf("Cut(%d): %v", ops, err)
		}
		for range 20 {
			mustDo(t, d, write{"Sync", "a", ""})
		}
	}
}

// TestCutLater (P4.4): a later Cut takes the place of an earlier one, be it nearer or farther, and is counted from where it comes.
func TestCutLater(t *testing.T) {
	for _, first := range []int{1, 2, 5, 9, math.MaxInt} {
		for ahead := range min(first, 5) {
			for _, second := range []int{0, 1, 2, 5, 9} {
				d := two(t)
				d.Cut(first)
				for range ahead {
					mustDo(t, d, write{"Sync", "a", ""})
				}
				if err := d.Cut(second); err != api.OK {
					t.Error(err)
				}
				for range second {
					mustDo(t, d, write{"Sync", "b", ""})
				}
				mustCut(t, d, write{"Sync", "a", ""})
			}
		}
	}
}

// TestCutOff (P4.4): a Cut that comes with the power off leaves it off, and does not come behind On.
func TestCutOff(t *testing.T) {
	for _, ops := range []int{0, 1, 5} {
		d := two(t)
		d.Cut(0)
		mustCut(t, d, write{"Sync", "a", ""})
		if err := d.Cut(ops); err != api.OK || !d.Off() {
			t.Errorf("Cut(%d): %v, Off %t", ops, err, d.Off())
		}
		mustRefuse(t, d, write{"Sync", "a", ""}, api.ErrPower)
		d.On()
		for range 10 {
			mustDo(t, d, write{"Sync", "a", ""})
		}
	}
}

// TestOn (P4.4): the power is on, and no cut is to come, had it been on or off; files and the count are as they were.
func TestOn(t *testing.T) {
	d := two(t)
	mustDo(t, d, write{"Append", "a", "x"})
	d.Cut(1)
	was := look(t, d)
	d.On()
	d.On()
	if is := look(t, d); is != was {
		t.Errorf("was %v, is %v", was, is)
	}
	for range 5 {
		mustDo(t, d, write{"Sync", "a", ""})
	}
	for range 3 {
		d.Cut(0)
		mustCut(t, d, write{"Remove", "a", ""})
		d.On()
		mustHave(t, d, 99, 6, file("a", "abcx"), file("b", "de"))
		if d.Off() {
			t.Error("off behind On")
		}
	}
	d.Cut(0) // a cut behind On comes
	mustCut(t, d, write{"Sync", "a", ""})
}

// TestLoad (P4.5): files in any order, a disk with its power on, no cut to come, and Ops 0.
func TestLoad(t *testing.T) {
	for _, l := range [][]disk.File{nil, {}} {
		mustHave(t, loaded(t, 0, l...), 0, 0)
		mustHave(t, loaded(t, 1<<40, l...), 1<<40, 0)
	}
	great := disk.File{Name: "great", Bytes: bytes.Repeat([]byte("stone "), 1<<18)} // more than one raw write lays
	d := loaded(t, 1<<40, file("b", ""), great, file("a", "xyz"), disk.File{Name: "nil"})
	mustHave(t, d, 1<<40-17-21-6<<18-20-19, 0, file("a", "xyz"), file("b", ""), great, file("nil", ""))
	for range 10 {
		mustDo(t, d, write{"Append", "b", "x"})
	}
	for _, name := range good {
		mustHave(t, loaded(t, 17+len(name), file(name, "x")), 0, 0, file(name, "x"))
	}
}

// TestLoadRefused (P4.5): New's error, then a name that may not be or stands twice, then no room; no disk beside an error.
func TestLoadRefused(t *testing.T) {
	refuse := func(want api.Errno, capacity int, l ...disk.File) {
		t.Helper()
		if d, err := disk.Load(capacity, l); d != nil || err != want {
			t.Errorf("Load(%d, %q): %v, %v", capacity, l, d, err)
		}
	}
	for _, capacity := range []int{-1, math.MinInt, 1<<40 + 1, math.MaxInt} {
		refuse(api.ErrArg, capacity)
		refuse(api.ErrArg, capacity, file("a", ""))
		refuse(api.ErrArg, capacity, file("", ""))
	}
	for _, capacity := range []int{0, 10, 1000, 1 << 40} {
		for _, name := range bad {
			refuse(api.ErrArg, capacity, file(name, ""))
			refuse(api.ErrArg, capacity, file("a", "x"), file("b", "x"), file(name, "x"))
			refuse(api.ErrArg, capacity, file(name, "x"), file("a", strings.Repeat("x", 2000)))
		}
		refuse(api.ErrArg, capacity, file("a", ""), file("a", ""))
		refuse(api.ErrArg, capacity, file("a", "x"), file("b", ""), file("a", "x"))
		refuse(api.ErrArg, capacity, file("a", "x"), file("b", strings.Repeat("x", 2000)), file("c", ""), file("b", "other"))
	}
	l := []disk.File{file("a", "xyz"), file(longest, ""), file("b", strings.Repeat("x", 500))} // cost 20, 216, 517
	for _, capacity := range []int{0, 20, 236, 752} {
		refuse(api.ErrNoSpace, capacity, l...)
	}
	mustHave(t, loaded(t, 753, l...), 0, 0, file("a", "xyz"), file("b", strings.Repeat("x", 500)), file(longest, ""))
	mustHave(t, loaded(t, 754, l...), 1, 0, file("a", "xyz"), file("b", strings.Repeat("x", 500)), file(longest, ""))
	refuse(api.ErrNoSpace, 0, file("a", ""))
	refuse(api.ErrNoSpace, 16, file("a", ""))
}

// run are raw writes of which all are done, one behind the other, on an empty disk.
var run = []write{
	{"Append", "a", "one "}, {"Append", "a", "two "}, {"Append", "b~", ""}, {"Append", "b~", longest[:64]}, {"Sync", "b~", ""}, {"Rename", "b~", "b"},
	{"Append", "a", "three"}, {"Append", "b~", "new"}, {"Rename", "b~", "b"}, {"Rename", "b", "b"}, {"Remove", "a", ""}, {"Append", "a", ""},
	{"Rename", "a", longest}, {"Append", "c", "x"}, {"Rename", longest, "c"}, {"Append", "c", "yz"}, {"Remove", "b", ""}, {"Remove", "c", ""},
}

// TestCutAnywhere (P4.6): behind a cut the files are those of the raw writes that were done; behind On the rest may be done.
func TestCutAnywhere(t *testing.T) {
	whole := made(t, 1000)
	var states []seen
	for _, w := range run {
		states = append(states, look(t, whole))
		mustDo(t, whole, w)
	}
	for n := range run {
		d := made(t, 1000)
		d.Cut(n)
		for i, w := range run {
			switch err := w.do(d); {
			case i < n && err != api.OK:
				t.Errorf("cut at %d: %q: %v", n, w, err)
			case i >= n && err != api.ErrPower:
				t.Errorf("behind the cut at %d: %q: %v", n, w, err)
			}
		}
		if !d.Off() {
			t.Errorf("cut at %d: not off", n)
		}
		d.On()
		if is := look(t, d); is != states[n] {
			t.Errorf("cut at %d: %v, want %v", n, is, states[n])
		}
		for _, w := range run[n:] {
			mustDo(t, d, w)
		}
		if is, want := look(t, d), look(t, whole); is != want {
			t.Errorf("behind all: %v, want %v", is, want)
		}
	}
}

// TestLoadOfDump (P4.5, P4.6): the same disk, its power on; the room that a disk has beside its files is the capacity's.
func TestLoadOfDump(t *testing.T) {
	d := made(t, 1000)
	for _, w := range run {
		mustDo(t, d, w)
		was := look(t, d)
		d.Cut(0)
		mustCut(t, d, write{"Append", "a", ""})
		again := loaded(t, 1000, d.Dump()...)
		was.ops = 0
		if is := look(t, again); is != was {
			t.Errorf("was %v, is %v", was, is)
		}
		if is := look(t, loaded(t, 1000-d.Free(), again.Dump()...)); is.files != was.files || is.free != 0 {
			t.Errorf("was %v, is %v", was, is)
		}
		d.On()
	}
}

// plain is a disk that is kept word for word: a list of files, which each raw write makes anew.
type plain struct {
	capacity  int
	files     []disk.File
	ops, last int // last: the Ops at which the cut comes; -1: none
	off       bool
}

// plainCost is what all files cost.
func plainCost(l []disk.File) int {
	sum := 0
	for _, f := range l {
		sum += 16 + len(f.Name) + len(f.Bytes)
	}
	return sum
}

// plainMayBe: may a file be called so?
func plainMayBe(name string) bool {
	return len(name) > 0 && len(name) <= 200 && !strings.Contains(name, "\x00")
}

// without are the files but those of one name.
func without(l []disk.File, name string) []disk.File {
	return slices.DeleteFunc(slices.Clone(l), func(f disk.File) bool { return f.Name == name })
}

// turned are the files behind a raw write that is done; false, if its file is not there.
func (p *plain) turned(w write) ([]disk.File, bool) {
	at := slices.IndexFunc(p.files, func(f disk.File) bool { return f.Name == w.name })
	was := disk.File{Name: w.name}
	if at >= 0 {
		was = p.files[at]
	}
	switch w.what {
	case "Append":
		was.Bytes = slices.Concat(was.Bytes, []byte(w.to))
		return append(without(p.files, w.name), was), true
	case "Remove":
		return without(p.files, w.name), at >= 0
	case "Rename":
		was.Name = w.to
		return append(without(without(p.files, w.name), w.to), was), at >= 0
	}
	return p.files, at >= 0
}

// do is P4.2 word for word.
func (p *plain) do(w write) api.Errno {
	if !plainMayBe(w.name) || w.what == "Rename" && !plainMayBe(w.to) || w.what == "Append" && len(w.to) > 64 {
		return api.ErrArg
	}
	if p.off {
		return api.ErrPower
	}
	l, there := p.turned(w)
	if !there {
		return api.ErrNoFile
	}
	if grown := plainCost(l) - plainCost(p.files); grown > p.capacity-plainCost(p.files) {
		return api.ErrNoSpace
	}
	if p.ops == p.last {
		p.off = true
		return api.ErrPower
	}
	p.files = l
	p.ops++
	return api.OK
}

// look is what is seen of it.
func (p *plain) look() seen {
	l := slices.SortedFunc(slices.Values(p.files), func(f, g disk.File) int { return cmp.Compare(f.Name, g.Name) })
	var s strings.Builder
	for _, f := range l {
		fmt.Fprintf(&s, "%q: %q\n", f.Name, f.Bytes)
	}
	return seen{s.String(), p.capacity - plainCost(p.files), p.ops, p.off}
}

// dice is a row of numbers that is the same in each run of the tests.
type dice uint64

// below is the next number, below n.
func (d *dice) below(n int) int {
	*d = *d*6364136223846793005 + 1442695040888963407
	return int(uint64(*d)>>33) % n
}

// anyWrite is a raw write, often one of few names, sometimes one that may not be.
func anyWrite(seed *dice) write {
	name := func() string {
		if seed.below(20) == 0 {
			return bad[seed.below(len(bad))]
		}
		return []string{"a", "b", "ab", "abc", "b~", longest}[seed.below(6)]
	}
	w := write{[]string{"Append", "Append", "Remove", "Rename", "Sync"}[seed.below(5)], name(), ""}
	switch w.what {
	case "Append":
		w.to = longest[:min(seed.below(70), seed.below(70))]
	case "Rename":
		w.to = name()
	}
	return w
}

// TestPlain (P4.1 to P4.6): long runs of all calls, held against the document's words.
func TestPlain(t *testing.T) {
	met := map[api.Errno]int{}
	for n := range 300 {
		seed := dice(n)
		p := &plain{capacity: seed.below(500), last: -1}
		d := made(t, p.capacity)
		for range 200 {
			switch seed.below(40) {
			case 0:
				p.last = p.ops + seed.below(8)
				if err := d.Cut(p.last - p.ops); err != api.OK {
					t.Fatal(err)
				}
			case 1, 2, 3:
				p.off, p.last = false, -1
				d.On()
			case 4:
				if !p.off {
					p.ops, p.last = 0, -1
					d = loaded(t, p.capacity, d.Dump()...)
				}
			default:
				w := anyWrite(&seed)
				got, want := w.do(d), p.do(w)
				if met[got]++; got != want {
					t.Fatalf("%q: %v, want %v", w, got, want)
				}
			}
			if is, want := look(t, d), p.look(); is != want {
				t.Fatalf("is %v, want %v", is, want)
			}
		}
	}
	for _, err := range []api.Errno{api.OK, api.ErrArg, api.ErrNoFile, api.ErrNoSpace, api.ErrPower} {
		if met[err] < 100 {
			t.Errorf("%v was met %d times", err, met[err])
		}
	}
}

// TestHandedIn (R3): what is handed in is as it was, the room behind it, too, and is not kept.
func TestHandedIn(t *testing.T) {
	d := made(t, 10000)
	room := []byte("one two three")
	for _, n := range []int{3, 4, 0, 8} {
		if err := d.Append("a", room[:n]); err != api.OK || string(room) != "one two three" {
			t.Errorf("%v, %q", err, room)
		}
	}
	clear(room)
	mustHave(t, d, 10000-17-15, 4, file("a", "oneone one two "))
	b := []byte("stone and more")
	l := []disk.File{{Name: "b", Bytes: b[:5]}, {Name: "a", Bytes: nil}, {Name: "c", Bytes: b[6:]}}
	if d = loaded(t, 1000, l...); string(b) != "stone and more" || l[0].Name != "b" || l[1].Name != "a" || l[2].Name != "c" || len(l[0].Bytes) != 5 {
		t.Errorf("Load changed %q", l)
	}
	for _, w := range []write{{"Append", "b", " age"}, {"Append", "a", "x"}, {"Append", "c", "!"}} {
		mustDo(t, d, w)
	}
	if string(b) != "stone and more" {
		t.Errorf("Append reached what Load was given: %q", b)
	}
	clear(b)
	clear(l)
	mustHave(t, d, 1000-18-26-26, 3, file("a", "x"), file("b", "stone age"), file("c", "and more!"))
}

// TestNewMemory (R3): what is answered is new memory, the room behind it, too.
func TestNewMemory(t *testing.T) {
	d := made(t, 1000)
	for _, w := range []write{{"Append", "a", "abc"}, {"Append", "a", "def"}, {"Append", "b", "x"}} {
		mustDo(t, d, w)
	}
	was := look(t, d)
	spoil := func() {
		a, _ := d.Read("a")
		a = a[:cap(a)]
		for i := range a {
			a[i] = 'z'
		}
		for _, f := range d.Dump() {
			for i := range f.Bytes[:cap(f.Bytes)] {
				f.Bytes[:cap(f.Bytes)][i] = 'z'
			}
		}
		clear(d.Names())
		clear(d.Dump())
	}
	spoil()
	if is := look(t, d); is != was {
		t.Errorf("is %v, was %v", is, was)
	}
	l, a, names := d.Dump(), []byte(nil), d.Names()
	a, _ = d.Read("a")
	for _, w := range []write{{"Append", "a", "ghi"}, {"Rename", "b", "a"}, {"Append", "a", "y"}} {
		mustDo(t, d, w)
	}
	if string(a) != "abcdef" || len(l) != 2 || string(l[0].Bytes) != "abcdef" || string(l[1].Bytes) != "x" || !slices.Equal(names, []string{"a", "b"}) {
		t.Errorf("Read %q, Dump %q, Names %q were changed by later raw writes", a, l, names)
	}
	e := loaded(t, 1000, l...) // two disks of one list
	f := loaded(t, 1000, l...)
	mustDo(t, e, write{"Append", "a", "e"})
	mustDo(t, f, write{"Append", "a", "f"})
	mustHave(t, e, 1000-24-18, 1, file("a", "abcdefe"), file("b", "x"))
	mustHave(t, f, 1000-24-18, 1, file("a", "abcdeff"), file("b", "x"))
}

// TestGreat (P4.2): as long a file as a file may be, by raw writes, in good time; many files, too.
func TestGreat(t *testing.T) {
	d := made(t, 1<<40)
	var want []byte
	for i := range api.MaxBytes / 64 {
		b := bytes.Repeat([]byte{byte(i)}, 64)
		if err := d.Append("great", b); err != api.OK {
			t.Fatal(err)
		}
		want = append(want, b...)
	}
	if b, err := d.Read("great"); err != api.OK || !bytes.Equal(b, want) || d.Ops() != 16384 || d.Free() != 1<<40-21-1<<20 {
		t.Errorf("%d bytes, %v, Ops %d, Free %d", len(b), err, d.Ops(), d.Free())
	}
	for i := range 20000 {
		if err := d.Append(fmt.Sprint(i), nil); err != api.OK {
			t.Fatal(err)
		}
	}
	if names := d.Names(); len(names) != 20001 || !slices.IsSorted(names) {
		t.Errorf("%d names", len(names))
	}
}

// TestAllEnd (P1): every call ends and none panics, whatever it is given.
func TestAllEnd(t *testing.T) {
	disks := []*disk.Disk{nil, {}, made(t, 0), made(t, 50), made(t, 1<<40), two(t)}
	numbers := []int{math.MinInt, -1, 0, 1, 64, 1 << 40, 1<<40 + 1, math.MaxInt}
	texts := slices.Concat(good, bad, []string{longest[:64], longest[:65]})
	for range 3 {
		for _, d := range disks {
			for _, name := range texts {
				for _, to := range texts {
					for _, what := range []string{"Append", "Rename", "Sync", "Append", "Rename", "Remove"} {
						write{what, name, to}.do(d)
					}
					disk.Load(d.Free(), []disk.File{file(name, to), file(to, name), {}})
					disk.Load(1000, append(d.Dump(), file(name, to)))
				}
				d.Read(name)
				d.Has(name)
			}
			for _, n := range numbers {
				d.Cut(n)
				d.Sync("a")
				d.On()
				disk.New(n)
				disk.Load(n, nil)
				disk.Load(n, []disk.File{{}, {}})
			}
			d.Cut(3)
			look(t, d)
		}
	}
}
