package loose_test

import (
	"bytes"
	"fmt"
	"maps"
	"slices"
	"strings"
	"testing"

	"dolmen/api"
	"dolmen/code"
	"dolmen/disk"
	"dolmen/loose"
	"dolmen/object"
	"dolmen/press"
	"dolmen/safe"
	"dolmen/sum"
)

// ids that may be, and of which no object of these tests is called.
var (
	idA   = strings.Repeat("a", 32)
	idNul = strings.Repeat("\x00", 32)
	idTop = strings.Repeat("\xff", 32)
)

// wrongIds may not be.
var wrongIds = []string{"", "a", idA[:31], idA + "a", idA + idA, strings.Repeat("é", 32), strings.Repeat("\x00", 31), strings.Repeat("\xff", 33), strings.Repeat("a", 1<<16), "o/" + idA}

// notRaw are bytes that are no object's.
func notRaw() [][]byte {
	return [][]byte{
		nil, {}, {0}, {5}, {9}, {255}, {2}, {3}, {4}, {2, 1}, {2, 0, 0}, {2, 128, 0},
		[]byte("\x02\x01\x01a\x02" + idA), []byte("\x02\x01\x01/\x00" + idA), []byte("\x02\x01\x01a\x00" + idA[1:]),
		[]byte("\x03" + idA + "\x00\x01a\x05"), []byte("\x03" + idA + "\x00\x01a\x05\x00\x00"), []byte("\x03" + idA + "\x05\x00\x00\x00"),
		[]byte("\x04" + idA + "\x00\x00\x00\x00"), []byte("\x04" + idA[1:] + "\x01n\x00\x00\x00"),
		append([]byte{1}, make([]byte, 1<<20+1)...), append([]byte{2}, make([]byte, 1<<21)...),
	}
}

// row is n bytes of which hardly any copy is to be had; the same each time.
func row(n int) string {
	b := make([]byte, n)
	x := uint32(n) + 1
	for i := range b {
		x = x*1664525 + 1013904223
		b[i] = byte(x >> 24)
	}
	return string(b)
}

// rawOf are an object's bytes.
func rawOf(t *testing.T, o api.Object) []byte {
	t.Helper()
	b, err := object.Encode(o)
	if err != api.OK {
		t.Fatalf("Encode: %v", err)
	}
	return b
}

// blob are a blob's bytes.
func blob(data string) []byte { return append([]byte{1}, data...) }

// raws are objects of each kind: without anything, with a little, with much, easily pressed and hardly.
func raws(t *testing.T) [][]byte {
	l := [][]byte{
		blob(""), blob("hi"), blob("aaaaaaaa"), blob(row(40)), blob(row(62)), blob(row(500)), blob(strings.Repeat("stone ", 1000)),
		rawOf(t, api.Object{Kind: api.Tree}),
		rawOf(t, api.Object{Kind: api.Tree, Entries: []api.Entry{{Name: "a", Dir: true, Id: idA}, {Name: "b", Id: idTop}}}),
		rawOf(t, api.Object{Kind: api.Commit, Tree: idA}),
		rawOf(t, api.Object{Kind: api.Commit, Tree: idA, Parents: []string{idNul, idTop}, Who: "mason", Stamp: 1 << 40, Text: row(1000)}),
		rawOf(t, api.Object{Kind: api.Tag, Target: idNul, Name: "n"}),
		rawOf(t, api.Object{Kind: api.Tag, Target: idTop, Name: strings.Repeat("n", 200), Who: "mason", Stamp: 7, Text: "a stone"}),
	}
	return l
}

// digits are an id's, or what would be of a text that is none.
func digits(id string) string { return fmt.Sprintf("%x", id) }

// files are names with their bytes.
type files map[string]string

// with are the files, and one more, or other bytes of one.
func (f files) with(name, b string) files {
	out := maps.Clone(f)
	out[name] = b
	return out
}

// without are the files but one.
func (f files) without(name string) files {
	out := maps.Clone(f)
	delete(out, name)
	return out
}

// put are the files, and that of these bytes, pressed.
func (f files) put(raw []byte) files {
	return f.with("o/"+digits(sum.Sum(raw)), string(press.Press(raw)))
}

// cost is what all of them cost.
func (f files) cost() int {
	n := 0
	for name, b := range f {
		n += 16 + len(name) + len(b)
	}
	return n
}

// tell is all files, by their names.
func (f files) tell() string {
	var s strings.Builder
	for _, name := range slices.Sorted(maps.Keys(f)) {
		fmt.Fprintf(&s, "%q: %q\n", name, f[name])
	}
	return s.String()
}

// held are the files of a disk.
func held(d *disk.Disk) files {
	f := files{}
	for _, x := range d.Dump() {
		f[x.Name] = string(x.Bytes)
	}
	return f
}

// loaded is a new disk with these files and so much room beside them.
func loaded(t *testing.T, free int, f files) *disk.Disk {
	t.Helper()
	var l []disk.File
	for name, b := range f {
		l = append(l, disk.File{Name: name, Bytes: []byte(b)})
	}
	d, err := disk.Load(free+f.cost(), l)
	if d == nil || err != api.OK {
		t.Fatalf("Load: %v, %v", d, err)
	}
	return d
}

// seen is all that can be seen of a disk.
type seen struct {
	files     string
	free, ops int
	off       bool
}

// look is what is seen of a disk.
func look(d *disk.Disk) seen { return seen{held(d).tell(), d.Free(), d.Ops(), d.Off()} }

// beside are files that are no objects', though some are called nearly so; no call may turn one.
func beside() files {
	a := digits(idA)
	return files{
		"o": "1", "o/": "2", "o//" + a: "3", "o/" + a[:62]: "4", "o/" + a + "61": "5", "o/" + a[:63]: "6", "o/" + a + "6": "7", "o/" + a[:63] + "A": "8",
		"O/" + a: "9", "o/" + a[:63] + "g": "", "o/" + a + "~~": row(70), "p/" + a: "11", a: "12", "/o/" + a: "13", "o/" + a + "/": "14", "o" + a: "15", "w/a": row(300),
	}
}

// raw writes that a Put of these bytes is: the chunks of the pressed ones, a Sync, a Rename.
func putOps(raw []byte) int { return max(1, (len(press.Press(raw))+63)/64) + 2 }

// mustPut holds that a Put answers OK and the id, and what is there then.
func mustPut(t *testing.T, d *disk.Disk, raw []byte, ops int, want files) {
	t.Helper()
	free, was := d.Free()+held(d).cost()-want.cost(), look(d)
	id, err := loose.Put(d, raw)
	if id != sum.Sum(raw) || err != api.OK {
		t.Errorf("Put(%.50q): %x, %v", raw, id, err)
	}
	if is, to := look(d), (seen{want.tell(), free, was.ops + ops, was.off}); is != to {
		t.Errorf("Put(%.50q): is %.1000v, want %.1000v", raw, is, to)
	}
}

// mustGet holds that a Get answers these bytes, and turns nothing.
func mustGet(t *testing.T, d *disk.Disk, raw []byte) {
	t.Helper()
	was := look(d)
	if got, err := loose.Get(d, sum.Sum(raw)); !bytes.Equal(got, raw) || err != api.OK {
		t.Errorf("Get of %.50q: %.50q, %v", raw, got, err)
	}
	if is := look(d); is != was {
		t.Errorf("Get turned %v to %v", was, is)
	}
}

// mustDrop holds what a Drop answers, and what is there then.
func mustDrop(t *testing.T, d *disk.Disk, id string, want api.Errno, ops int, off bool, f files) {
	t.Helper()
	free, was := d.Free()+held(d).cost()-f.cost(), look(d)
	if err := loose.Drop(d, id); err != want {
		t.Errorf("Drop(%x): %v, want %v", id, err, want)
	}
	if is, to := look(d), (seen{f.tell(), free, was.ops + ops, off}); is != to {
		t.Errorf("Drop(%x): is %v, want %v", id, is, to)
	}
}

// mustRefuse holds that a call answers an error with nothing beside it, and turns nothing at all.
func mustRefuse(t *testing.T, d *disk.Disk, call string, want api.Errno, do func() (bool, api.Errno)) {
	t.Helper()
	was := look(d)
	if none, err := do(); !none || err != want {
		t.Errorf("%.100s: %v, want %v; nothing beside it: %t", call, err, want, none)
	}
	if is := look(d); is != was {
		t.Errorf("%.100s, refused, turned %v to %v", call, was, is)
	}
}

func refusePut(t *testing.T, d *disk.Disk, raw []byte, want api.Errno) {
	t.Helper()
	mustRefuse(t, d, fmt.Sprintf("Put(%.20x)", raw), want, func() (bool, api.Errno) {
		id, err := loose.Put(d, raw)
		return id == "", err
	})
}

func refuseGet(t *testing.T, d *disk.Disk, id string, want api.Errno) {
	t.Helper()
	mustRefuse(t, d, fmt.Sprintf("Get(%x)", id), want, func() (bool, api.Errno) {
		b, err := loose.Get(d, id)
		return b == nil, err
	})
}

func refuseDrop(t *testing.T, d *disk.Disk, id string, want api.Errno) {
	t.Helper()
	mustRefuse(t, d, fmt.Sprintf("Drop(%x)", id), want, func() (bool, api.Errno) { return true, loose.Drop(d, id) })
}

// turnOff lets the power of a disk go.
func turnOff(t *testing.T, d *disk.Disk) {
	t.Helper()
	d.Cut(0)
	d.Append(append(d.Names(), "x")[0], nil) // to a file that is there, if there is one: that needs no room
	if !d.Off() {
		t.Fatal("not off")
	}
}

// TestName (P7.1): "o/" and two digits for each byte, of ids of any length and any bytes.
func TestName(t *testing.T) {
	for _, k := range [][2]string{
		{"", "o/"}, {"\x00\x0f\xa0", "o/000fa0"}, {"\x9f", "o/9f"}, {idA[:31], "o/" + strings.Repeat("61", 31)}, {idA, "o/" + strings.Repeat("61", 32)},
		{idA + "~", "o/" + strings.Repeat("61", 32) + "7e"}, {idTop, "o/" + strings.Repeat("f", 64)}, {idNul, "o/" + strings.Repeat("0", 64)},
		{"o/", "o/6f2f"}, {"é", "o/c3a9"}, {strings.Repeat("\xab", 1<<16), "o/" + strings.Repeat("ab", 1<<16)},
	} {
		if name := loose.Name(k[0]); name != k[1] {
			t.Errorf("Name(%.100q): %.100q, want %.100q", k[0], name, k[1])
		}
	}
}

// TestExample (P7.1, P7.2): the document's own.
func TestExample(t *testing.T) {
	d := loaded(t, 1000, nil)
	id, err := loose.Put(d, []byte{2, 0})
	if id != sum.Sum([]byte{2, 0}) || err != api.OK || d.Ops() != 3 {
		t.Errorf("Put: %x, %v, Ops %d", id, err, d.Ops())
	}
	if l := d.Dump(); len(l) != 1 || l[0].Name != "o/"+digits(id) || string(l[0].Bytes) != "\x02\x02\x02\x00" {
		t.Errorf("%q", l)
	}
}

// TestPutGetDrop (P7.1 to P7.4): objects of each kind are put, got, put again without a write, dropped, and put once more; no other file turns.
func TestPutGetDrop(t *testing.T) {
	all := raws(t)
	for _, was := range []files{{}, beside()} {
		d, f := loaded(t, 1<<20, was), was
		for _, raw := range all {
			refuseGet(t, d, sum.Sum(raw), api.ErrNoObject)
			refuseDrop(t, d, sum.Sum(raw), api.ErrNoObject)
			f = f.put(raw)
			mustPut(t, d, raw, putOps(raw), f)
			mustGet(t, d, raw)
			mustPut(t, d, raw, 0, f)
		}
		for _, raw := range all { // those put later have not turned those put first
			mustGet(t, d, raw)
			mustPut(t, d, raw, 0, f)
		}
		for i, raw := range all {
			id := sum.Sum(raw)
			gone := f.without(loose.Name(id))
			mustDrop(t, d, id, api.OK, 1, false, gone)
			refuseGet(t, d, id, api.ErrNoObject)
			refuseDrop(t, d, id, api.ErrNoObject)
			mustGet(t, d, all[(i+1)%len(all)])
			mustPut(t, d, raw, putOps(raw), f)
			mustGet(t, d, raw)
		}
		for _, raw := range all {
			loose.Drop(d, sum.Sum(raw))
		}
		if held(d).tell() != was.tell() {
			t.Errorf("is %q, was %q", held(d), was)
		}
	}
}

// TestThereAlready (P7.2, P7.1): what is there is got, and put without a write, with the power off, with no room, with the cut to come, and beside a shadow; the shadow stays.
func TestThereAlready(t *testing.T) {
	for _, raw := range raws(t) {
		f := beside().put(raw).with(loose.Name(sum.Sum(raw))+"~", "left")
		d := loaded(t, 0, f)
		d.Cut(0)
		mustPut(t, d, raw, 0, f)
		mustGet(t, d, raw)
		turnOff(t, d)
		mustPut(t, d, raw, 0, f)
		mustGet(t, d, raw)
	}
}

// none are disks that are none.
func none() []*disk.Disk { return []*disk.Disk{nil, {}, new(disk.Disk)} }

// TestWrongId (P7.1, P7.3): an id that has not 32 bytes: ErrArg, even where a file is called by it, and the power is off.
func TestWrongId(t *testing.T) {
	f := beside().put(blob("hi"))
	for _, id := range wrongIds {
		if name := "o/" + digits(id); len(name) <= 200 {
			f = f.with(name, string(press.Press(blob("hi"))))
		}
	}
	for _, off := range []bool{false, true} {
		d := loaded(t, 1000, f)
		if off {
			turnOff(t, d)
		}
		id := sum.Sum(blob("hi"))
		for _, id := range append(wrongIds, id[:31], id+"\x00", id+id, digits(id), loose.Name(id)) {
			refuseGet(t, d, id, api.ErrArg)
			refuseDrop(t, d, id, api.ErrArg)
		}
	}
}

// TestNoDisk (P7.1 to P7.3): a disk that is nil, or that New has not made: ErrArg, and no ids.
func TestNoDisk(t *testing.T) {
	for _, d := range none() {
		for _, id := range append(wrongIds, idA, idNul, idTop, sum.Sum(blob(""))) {
			refuseGet(t, d, id, api.ErrArg)
			refuseDrop(t, d, id, api.ErrArg)
		}
		for _, raw := range slices.Concat(raws(t), notRaw()) {
			refusePut(t, d, raw, api.ErrArg)
		}
		if l := loose.Ids(d); len(l) != 0 {
			t.Errorf("Ids: %q", l)
		}
	}
}

// TestNoObject (P7.1, P7.3): ErrNoObject, where there is no file of that very name, with the power off, too.
func TestNoObject(t *testing.T) {
	lower, raw := strings.Repeat("\xab", 32), string(press.Press(blob("hi")))
	f := beside().put(blob("hi")).with("o/"+strings.ToUpper(digits(lower)), raw).with("o/"+digits(idTop)+"~", raw)
	d := loaded(t, 0, f)
	for _, off := range []bool{false, true} {
		if off {
			turnOff(t, d)
		}
		for _, id := range []string{idA, idNul, idTop, lower, sum.Sum(blob("ho")), sum.Sum(nil)} {
			refuseGet(t, d, id, api.ErrNoObject)
			refuseDrop(t, d, id, api.ErrNoObject)
		}
		mustGet(t, d, blob("hi"))
	}
}

// TestWrongRaw (P7.2): bytes that are no object's: ErrArg ahead of all other errors, whatever stands in the file of their sum.
func TestWrongRaw(t *testing.T) {
	for _, raw := range notRaw() {
		name := loose.Name(sum.Sum(raw))
		for _, f := range []files{{}, beside(), beside().put(raw), beside().with(name, "spoilt")} {
			for _, free := range []int{50, 1 << 21} {
				d := loaded(t, free, f)
				refusePut(t, d, raw, api.ErrArg)
				d.Cut(0)
				refusePut(t, d, raw, api.ErrArg)
				turnOff(t, d)
				refusePut(t, d, raw, api.ErrArg)
			}
		}
	}
}

// runs are bytes pressed otherwise than Press does: all of them in runs of at most n.
func runs(b []byte, n int) string {
	out := code.PutNum(nil, len(b))
	for piece := range slices.Chunk(b, n) {
		out = append(code.PutNum(out, 2*(len(piece)-1)), piece...)
	}
	return string(out)
}

// TestOtherTokens (P7.1, P7.2): a file whose tokens are parted otherwise than Press does holds the object as well, and is left as it is.
func TestOtherTokens(t *testing.T) {
	for _, raw := range raws(t) {
		for _, n := range []int{1, 2, 7, 1 << 20} {
			f := beside().with(loose.Name(sum.Sum(raw)), runs(raw, n))
			d := loaded(t, 1<<20, f)
			mustGet(t, d, raw)
			mustPut(t, d, raw, 0, f)
		}
	}
}

// spoilt holds that a file's bytes are told as corrupt by Get and by a Put of what should be there, without a write, and that Drop makes room for it.
func spoilt(t *testing.T, raw []byte, b string) {
	t.Helper()
	id := sum.Sum(raw)
	f := files{"w/a": "a"}.put(blob("beside")).with(loose.Name(id), b)
	d := loaded(t, 1<<21, f)
	for _, off := range []bool{false, true} { // ErrCorrupt goes ahead of the power
		if off {
			turnOff(t, d)
		}
		refuseGet(t, d, id, api.ErrCorrupt)
		if _, err := object.Decode(raw); err == api.OK {
			refusePut(t, d, raw, api.ErrCorrupt)
		}
		mustGet(t, d, blob("beside"))
	}
	d.On()
	if l := loose.Ids(d); len(l) != 2 || !slices.Contains(l, id) {
		t.Errorf("Ids: %q", l)
	}
	mustDrop(t, d, id, api.OK, 1, false, f.without(loose.Name(id)))
	if _, err := object.Decode(raw); err == api.OK {
		mustPut(t, d, raw, putOps(raw), f.put(raw))
		mustGet(t, d, raw)
	}
}

// TestCorrupt (P7.1 to P7.3): bytes that press.Open refuses, or that are another object's, or that are no object's.
func TestCorrupt(t *testing.T) {
	all := raws(t)
	for i, raw := range all {
		pressed := string(press.Press(raw))
		for _, n := range []int{0, 1, 2, len(pressed) / 2, len(pressed) - 1} {
			spoilt(t, raw, pressed[:n])
		}
		for _, more := range []string{"\x00", "\x00a", "\x80", "\xff", pressed, "~"} {
			spoilt(t, raw, pressed+more)
		}
		spoilt(t, raw, string(raw))
		spoilt(t, raw, "\x80\x00"+pressed)
		spoilt(t, raw, runs(append(bytes.Clone(raw), 0), 9))
		spoilt(t, raw, string(press.Press(all[(i+1)%len(all)])))
		spoilt(t, raw, string(press.Press(append([]byte{raw[0] ^ 1}, raw[1:]...))))
		spoilt(t, raw, string(press.Press(nil)))
	}
	for _, raw := range notRaw() { // the sum is right, the bytes are no object's
		spoilt(t, raw, string(press.Press(raw)))
		spoilt(t, raw, runs(raw, 1<<20))
	}
	spoilt(t, blob("hi"), "\xff\xff\xff\xff\xff\xff\xff\xff\x7f\x04\x01hi")
}

// TestOpenMost (P7.1): what opens to just 2^21 bytes and what opens to more are both corrupt: no object has so many.
func TestOpenMost(t *testing.T) {
	for _, n := range []int{1<<21 - 1, 1 << 21, 1<<21 + 1, 1 << 22} {
		raw := make([]byte, n)
		raw[0] = 1
		spoilt(t, raw, string(press.Press(raw)))
	}
	long := append(code.PutNum(nil, 1<<40), "\x00\x01"...) // says what it has not
	for range 1 << 12 {
		long = append(long, "\xff\x03\x01"...)
	}
	spoilt(t, blob("hi"), string(long))
}

// TestTurned (P7.1, P7.2): each byte of a file turned to each other one: still the object, if it opens to it, or corrupt.
func TestTurned(t *testing.T) {
	for _, raw := range [][]byte{blob("aaaaaaaaa hi aaaa"), {2, 0}, rawOf(t, api.Object{Kind: api.Tag, Target: idA, Name: "n"})} {
		id, pressed := sum.Sum(raw), press.Press(raw)
		for i := range pressed {
			for c := range 256 {
				b := bytes.Clone(pressed)
				b[i] = byte(c)
				d := loaded(t, 1000, files{loose.Name(id): string(b)})
				open, err := press.Open(b, 1<<21)
				if err == api.OK && bytes.Equal(open, raw) {
					mustGet(t, d, raw)
					mustPut(t, d, raw, 0, held(d))
					continue
				}
				refuseGet(t, d, id, api.ErrCorrupt)
				refusePut(t, d, raw, api.ErrCorrupt)
			}
		}
	}
}

// TestRoom (P7.2): where just as much is free as safe.Need asks of the pressed bytes, and where it is a byte less.
func TestRoom(t *testing.T) {
	for _, raw := range raws(t) {
		need := safe.Need(loose.Name(sum.Sum(raw)), len(press.Press(raw)))
		for _, f := range []files{{}, beside(), beside().put(blob("other"))} {
			mustPut(t, loaded(t, need, f), raw, putOps(raw), f.put(raw))
			for _, free := range []int{need - 1, need / 2, 1, 0} {
				refusePut(t, loaded(t, free, f), raw, api.ErrNoSpace)
			}
		}
	}
}

// TestShadow (P7.2): a shadow that a cut has left is removed by the Put of that object alone, and makes room for it.
func TestShadow(t *testing.T) {
	raw, other := blob("hi"), blob("ho")
	name := loose.Name(sum.Sum(raw))
	f := beside().with(name+"~", row(500))
	mustPut(t, loaded(t, 0, f), raw, putOps(raw)+1, beside().put(raw))
	mustPut(t, loaded(t, 1000, f), other, putOps(other), f.put(other))
	refuseGet(t, loaded(t, 0, f), sum.Sum(raw), api.ErrNoObject)
	refuseDrop(t, loaded(t, 0, f), sum.Sum(raw), api.ErrNoObject)
}

// TestPower (P7.2, P7.3): with the power off what is not there is not put (ErrPower ahead of ErrNoSpace), what is there is not dropped.
func TestPower(t *testing.T) {
	for _, free := range []int{0, 1 << 20} {
		for _, raw := range raws(t) {
			d := loaded(t, free, beside().put(blob("there")))
			turnOff(t, d)
			refusePut(t, d, raw, api.ErrPower)
			refuseDrop(t, d, sum.Sum(blob("there")), api.ErrPower)
			refuseDrop(t, d, sum.Sum(raw), api.ErrNoObject)
		}
	}
	f := beside().put(blob("there"))
	d := loaded(t, 0, f)
	d.Cut(0)
	refusePut(t, d, blob("hi"), api.ErrNoSpace) // no raw write, no cut
	mustDrop(t, d, sum.Sum(blob("there")), api.ErrPower, 0, true, f)
	d.On()
	d.Cut(1)
	mustDrop(t, d, sum.Sum(blob("there")), api.OK, 1, false, beside())
}

// cutPut cuts a Put at a raw write, holds P7.4, and tells whether the cut came within it.
func cutPut(t *testing.T, was files, raw []byte, ops int) bool {
	t.Helper()
	id := sum.Sum(raw)
	name := loose.Name(id)
	d := loaded(t, 1<<20, was)
	d.Cut(ops)
	got, err := loose.Put(d, raw)
	cut := d.Off()
	if cut && (got != "" || err != api.ErrPower) || !cut && (got != id || err != api.OK) {
		t.Errorf("cut at %d: %x, %v, Off %t", ops, got, err, cut)
	}
	if cut != (held(d)[name] == "") || d.Ops() != ops && cut {
		t.Errorf("cut at %d: Off %t, Ops %d, %q", ops, cut, d.Ops(), held(d)[name])
	}
	for _, on := range []bool{false, true} {
		if on {
			d.On()
		}
		if cut {
			refuseGet(t, d, id, api.ErrNoObject)
		} else {
			mustGet(t, d, raw)
		}
		mustGet(t, d, blob("there"))
		if is, want := held(d).without(name).without(name+"~"), was.without(name+"~"); is.tell() != want.tell() {
			t.Errorf("cut at %d: other files were turned: %q, want %q", ops, is, want)
		}
	}
	if err := safe.Sweep(d); err != api.OK {
		t.Errorf("Sweep: %v", err)
	}
	more := putOps(raw)
	if !cut {
		more = 0
	}
	mustPut(t, d, raw, more, was.without(name+"~").put(raw))
	mustGet(t, d, raw)
	return cut
}

// TestCutAnywhere (P7.4): cut at each raw write of a Put in turn, the object is there, whole, or not; swept and put again it is there.
func TestCutAnywhere(t *testing.T) {
	around := beside().without("o/" + digits(idA) + "~~").put(blob("there"))
	for _, raw := range raws(t) {
		shadow := loose.Name(sum.Sum(raw)) + "~"
		for _, was := range []files{around, around.with(shadow, ""), around.with(shadow, row(200))} {
			cuts := 0
			for cutPut(t, was, raw, cuts) {
				cuts++
			}
			want := putOps(raw)
			if _, ok := was[shadow]; ok {
				want++
			}
			if cuts != want {
				t.Errorf("Put(%.50q): %d raw writes, want %d", raw, cuts, want)
			}
		}
	}
}

// TestCutAgain (P7.4): cut again and again, without a Sweep, nothing but a shadow is there, and a Put that ends at last is whole.
func TestCutAgain(t *testing.T) {
	for _, raw := range raws(t) {
		f := beside().put(blob("there"))
		name := loose.Name(sum.Sum(raw))
		d := loaded(t, safe.Need(name, len(press.Press(raw))), f)
		for ops := range putOps(raw) + 1 {
			d.Cut(ops)
			if id, err := loose.Put(d, raw); id != "" || err != api.ErrPower {
				t.Fatalf("cut at %d: %x, %v", ops, id, err)
			}
			d.On()
			refuseGet(t, d, sum.Sum(raw), api.ErrNoObject)
			if is := held(d).without(name + "~"); is.tell() != f.tell() {
				t.Fatalf("cut at %d: %q", ops, is)
			}
		}
		mustPut(t, d, raw, putOps(raw)+1, f.put(raw))
	}
}

// TestIds (P7.3): just the files whose names are "o/" and the 64 digits of 32 bytes, rising, each once, whatever they hold; also with the power off.
func TestIds(t *testing.T) {
	want := []string{idNul, "\x09" + idA[1:], "\x0a" + idA[1:], "\x0f" + idTop[1:], "\x10" + idNul[1:], idA[:31] + "\x60", idA, idA[:31] + "\xff", "\x9f" + idTop[1:], "\xa0" + idNul[1:], idTop}
	if !slices.IsSorted(want) {
		t.Fatal("out of order")
	}
	f := beside()
	if l := loose.Ids(loaded(t, 0, f)); len(l) != 0 {
		t.Errorf("Ids: %q", l)
	}
	for i, id := range want {
		f = f.with("o/"+digits(id), row(i)).with("o/"+digits(id)+"~", "shadow").with("p/"+digits(id), "pack").with("o/"+digits(id)+"00", "more").with(digits(id), "bare")
		if i > 0 && i < len(want)-1 {
			f = f.with("o/"+strings.ToUpper(digits(id)[:62])+"AB", "great").with("o/"+digits(id)[:62], "less").with("o/0"+digits(id), "odd").with("o/"+digits(id)[:60]+"0x61", "none")
		}
	}
	d := loaded(t, 10, f)
	was := look(d)
	for range 2 {
		if l := loose.Ids(d); !slices.Equal(l, want) {
			t.Errorf("Ids: %x, want %x", l, want)
		}
	}
	if is := look(d); is != was {
		t.Errorf("Ids turned %v to %v", was, is)
	}
	turnOff(t, d)
	if l := loose.Ids(d); !slices.Equal(l, want) {
		t.Errorf("Ids with the power off: %x", l)
	}
}

// TestIdsOfPut (P7.3, P7.4): what is put is told, what is dropped is not.
func TestIdsOfPut(t *testing.T) {
	d := loaded(t, 1<<20, beside())
	var want []string
	for _, raw := range raws(t) {
		id, _ := loose.Put(d, raw)
		want = append(want, id)
		slices.Sort(want)
		if l := loose.Ids(d); !slices.Equal(l, want) {
			t.Errorf("Ids: %x, want %x", l, want)
		}
	}
	for len(want) > 0 {
		i := len(want) / 2
		loose.Drop(d, want[i])
		want = slices.Delete(want, i, i+1)
		if l := loose.Ids(d); !slices.Equal(l, want) {
			t.Errorf("Ids: %x, want %x", l, want)
		}
	}
}

// isNone: is the disk none?
func isNone(d *disk.Disk) bool {
	_, err := d.Read("x")
	return err == api.ErrArg
}

// plainGet is P7.1, word for word.
func plainGet(d *disk.Disk, id string) (string, api.Errno) {
	if len(id) != 32 || isNone(d) {
		return "", api.ErrArg
	}
	b, ok := held(d)["o/"+digits(id)]
	if !ok {
		return "", api.ErrNoObject
	}
	raw, err := press.Open([]byte(b), 1<<21)
	if err != api.OK || sum.Sum(raw) != id {
		return "", api.ErrCorrupt
	}
	if _, err := object.Decode(raw); err != api.OK {
		return "", api.ErrCorrupt
	}
	return string(raw), api.OK
}

// plainPut is P7.2, word for word.
func plainPut(d *disk.Disk, raw []byte) (string, api.Errno) {
	if _, err := object.Decode(raw); err != api.OK || isNone(d) {
		return "", api.ErrArg
	}
	id := sum.Sum(raw)
	switch got, err := plainGet(d, id); {
	case err == api.OK && got == string(raw):
		return id, api.OK
	case err == api.OK:
		return "", api.ErrCollision
	case err == api.ErrCorrupt:
		return "", api.ErrCorrupt
	}
	if err := safe.Save(d, "o/"+digits(id), press.Press(raw)); err != api.OK {
		return "", err
	}
	return id, api.OK
}

// plainDrop is P7.3, word for word.
func plainDrop(d *disk.Disk, id string) api.Errno {
	if len(id) != 32 || isNone(d) {
		return api.ErrArg
	}
	if _, ok := held(d)["o/"+digits(id)]; !ok {
		return api.ErrNoObject
	}
	return d.Remove("o/" + digits(id))
}

// dice is a row of numbers that is the same in each run of the tests.
type dice uint64

// below is the next number, below n.
func (d *dice) below(n int) int {
	*d = *d*6364136223846793005 + 1442695040888963407
	return int(uint64(*d)>>33) % n
}

// step is one call of a long run, at the disk and at the one that is held against it.
func step(t *testing.T, seed *dice, pool [][]byte, d, plain *disk.Disk, met map[api.Errno]int) {
	t.Helper()
	raw := pool[seed.below(len(pool))]
	id := sum.Sum(raw)
	if seed.below(20) == 0 {
		id = wrongIds[seed.below(len(wrongIds))]
	}
	switch seed.below(9) {
	case 0:
		n := seed.below(12)
		d.Cut(n)
		plain.Cut(n)
	case 1, 2:
		d.On()
		plain.On()
	case 3:
		more := []byte(row(seed.below(3)))
		d.Append(loose.Name(id), more)
		plain.Append(loose.Name(id), more)
	case 4, 5:
		got, want := loose.Drop(d, id), plainDrop(plain, id)
		if met[want]++; got != want {
			t.Fatalf("Drop: %v, want %v", got, want)
		}
	default:
		got, err := loose.Put(d, raw)
		want, e := plainPut(plain, raw)
		if met[e]++; got != want || err != e {
			t.Fatalf("Put: %x, %v, want %x, %v", got, err, want, e)
		}
	}
	got, err := loose.Get(d, id)
	want, e := plainGet(plain, id)
	if met[e]++; string(got) != want || err != e || look(d) != look(plain) {
		t.Fatalf("Get: %.50q, %v, want %.50q, %v; is %.1000v, want %.1000v", got, err, want, e, look(d), look(plain))
	}
}

// TestPlain (P7.1 to P7.4): long runs of puts, drops, spoilt files, cuts and want of room, held against the document's words.
func TestPlain(t *testing.T) {
	pool := append(raws(t)[:5], []byte{2, 0}, nil, []byte{9})
	met := map[api.Errno]int{}
	for n := range 100 {
		seed := dice(n)
		free := 100 + seed.below(700)
		d, plain := loaded(t, free, nil), loaded(t, free, nil)
		for range 100 {
			step(t, &seed, pool, d, plain, met)
		}
	}
	for _, err := range []api.Errno{api.OK, api.ErrArg, api.ErrCorrupt, api.ErrNoSpace, api.ErrPower, api.ErrNoObject} {
		if met[err] < 100 {
			t.Errorf("%v was met %d times", err, met[err])
		}
	}
}

// TestHandedIn (R3): what is handed in is as it was, the room behind it, too, and is not kept.
func TestHandedIn(t *testing.T) {
	for _, raw := range raws(t) {
		d := loaded(t, 1<<20, nil)
		room := append(bytes.Clone(raw), "what stands behind"...)
		want := bytes.Clone(room)
		for range 2 {
			if id, err := loose.Put(d, room[:len(raw)]); id != sum.Sum(raw) || err != api.OK || !bytes.Equal(room, want) {
				t.Errorf("Put(%.50q): %x, %v, handed in is %.50q", raw, id, err, room)
			}
		}
		clear(room)
		mustGet(t, d, raw)
		mustPut(t, d, raw, 0, held(d))
	}
}

// TestNewMemory (R3): what is done to an answer turns nothing of the disk, and of no other answer.
func TestNewMemory(t *testing.T) {
	d := loaded(t, 1<<20, nil)
	for _, raw := range raws(t) {
		loose.Put(d, raw)
		a, _ := loose.Get(d, sum.Sum(raw))
		b, _ := loose.Get(d, sum.Sum(raw))
		clear(a[:cap(a)])
		if !bytes.Equal(b, raw) {
			t.Errorf("two answers share memory: %.50q", b)
		}
		mustGet(t, d, raw)
	}
	l, m := loose.Ids(d), loose.Ids(d)
	clear(l[:cap(l)])
	if n := loose.Ids(d); !slices.Equal(m, n) || len(n) != len(raws(t)) {
		t.Errorf("two answers share memory: %x, %x", m, n)
	}
}

// TestGreat (P7.2, P7.4): the greatest objects, easily pressed and hardly.
func TestGreat(t *testing.T) {
	var l []api.Entry
	for i := range 4096 {
		l = append(l, api.Entry{Name: fmt.Sprintf("%0100d", i), Id: sum.Sum([]byte{byte(i), byte(i >> 8)})})
	}
	d, f := loaded(t, 1<<22, nil), files{}
	for _, raw := range [][]byte{blob(row(1 << 20)), blob(strings.Repeat("stone   ", 1<<17)), rawOf(t, api.Object{Kind: api.Tree, Entries: l})} {
		f = f.put(raw)
		mustPut(t, d, raw, putOps(raw), f)
		mustGet(t, d, raw)
		mustPut(t, d, raw, 0, f)
	}
	for _, id := range loose.Ids(d) {
		loose.Drop(d, id)
	}
	if d.Free() != 1<<22 || len(d.Names()) != 0 {
		t.Errorf("Free %d, %q", d.Free(), d.Names())
	}
}

// TestAllEnd (P1): every call ends and none panics, whatever it is given.
func TestAllEnd(t *testing.T) {
	for _, d := range append(none(), loaded(t, 0, nil), loaded(t, 100, beside()), loaded(t, 1<<22, nil)) {
		for _, cut := range []int{1 << 20, 1, 0} {
			d.Cut(cut)
			for _, raw := range slices.Concat(raws(t), notRaw()) {
				loose.Put(d, raw)
				loose.Get(d, sum.Sum(raw))
				loose.Put(d, press.Press(raw))
			}
			for _, id := range append(wrongIds, idA, idNul, idTop) {
				loose.Name(id)
				loose.Get(d, id)
				loose.Drop(d, id)
			}
			loose.Ids(d)
			d.On()
		}
	}
}
