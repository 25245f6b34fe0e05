package object_test

import (
	"bytes"
	"encoding/binary"
	"fmt"
	"math"
	"reflect"
	"slices"
	"strconv"
	"strings"
	"testing"

	"dolmen/api"
	"dolmen/object"
	"dolmen/sum"
)

// ids that differ at their ends only, or in nothing but bytes that mean something elsewhere.
var (
	idA   = strings.Repeat("a", 32)
	idB   = strings.Repeat("a", 31) + "b"
	idC   = "b" + strings.Repeat("a", 31)
	idNul = strings.Repeat("\x00", 32)
	idTop = strings.Repeat("\xff", 32)
)

// wrongIds are none.
var wrongIds = []string{"", "a", idA[:31], idA + "a", idA + idB, strings.Repeat("a", 64), strings.Repeat("é", 32)}

// parts are such as may be.
var parts = []string{"a", "A", "...", ".a", "a.", "..a", " ", "\n", "\x01", "\xff", "\xc3\x28", "-", "~", "\\", "é", "a b", strings.Repeat("n", 99), strings.Repeat("n", 100), strings.Repeat(".", 100), strings.Repeat("\xff", 100)}

// wrongParts are such as may not be.
var wrongParts = []string{"", ".", "..", "/", "\x00", "a/", "/a", "a/b", "a\x00", "\x00a", "a\x00b", "./", "../", strings.Repeat("n", 101), strings.Repeat("n", 99) + "/", strings.Repeat("n", 99) + "\x00", strings.Repeat("é", 51), strings.Repeat("n", 1<<16)}

// file and dir are entries.
func file(name, id string) api.Entry { return api.Entry{Name: name, Id: id} }
func dir(name, id string) api.Entry  { return api.Entry{Name: name, Dir: true, Id: id} }

// blob, tree, commit and tag are objects.
func blob(data string) api.Object     { return api.Object{Kind: 1, Data: []byte(data)} }
func tree(l ...api.Entry) api.Object  { return api.Object{Kind: 2, Entries: l} }
func commit(l ...string) api.Object   { return api.Object{Kind: 3, Tree: l[0], Parents: l[1:]} }
func tag(target, n string) api.Object { return api.Object{Kind: 4, Target: target, Name: n} }
func num(n int) []byte                { return binary.AppendUvarint(nil, uint64(n)) }
func text(s string) []byte            { return join(num(len(s)), []byte(s)) }
func join(rows ...[]byte) []byte      { return bytes.Join(rows, nil) }
func row(pieces ...any) []byte        { return join(pieced(pieces)...) }
func noted(o api.Object, who string, stamp int, s string) api.Object {
	o.Who, o.Stamp, o.Text = who, stamp, s
	return o
}

// pieced are rows of bytes: a number is one byte, a text its bytes.
func pieced(pieces []any) [][]byte {
	var l [][]byte
	for _, p := range pieces {
		switch p := p.(type) {
		case int:
			l = append(l, []byte{byte(p)})
		case string:
			l = append(l, []byte(p))
		case []byte:
			l = append(l, p)
		}
	}
	return l
}

// rising are n entries, with names of so many bytes.
func rising(n, size int) []api.Entry {
	var l []api.Entry
	for i := range n {
		name := fmt.Sprintf("%04d", i)
		l = append(l, api.Entry{Name: name + strings.Repeat("n", size-len(name)), Dir: i%3 == 0, Id: string(num(i)) + idA[len(num(i)):]})
	}
	return l
}

// named are the fields that a kind's row names.
func named(kind int) []string {
	switch kind {
	case 1:
		return []string{"Data"}
	case 2:
		return []string{"Entries"}
	case 3:
		return []string{"Tree", "Parents", "Who", "Stamp", "Text"}
	case 4:
		return []string{"Target", "Name", "Who", "Stamp", "Text"}
	}
	return nil
}

// isEmpty: is a field 0, "", or without elements?
func isEmpty(v reflect.Value) bool {
	return v.IsZero() || v.Kind() == reflect.Slice && v.Len() == 0
}

// plainPart is the words "a part may be".
func plainPart(s string) bool {
	if len(s) < 1 || len(s) > 100 || s == "." || s == ".." {
		return false
	}
	for _, c := range []byte(s) {
		if c == 0 || c == '/' {
			return false
		}
	}
	return true
}

// plainMay is the table of kinds, word for word.
func plainMay(o api.Object) bool {
	if o.Kind < 1 || o.Kind > 4 {
		return false
	}
	v := reflect.ValueOf(o)
	for i := range v.NumField() {
		if f := v.Type().Field(i).Name; f != "Kind" && !slices.Contains(named(o.Kind), f) && !isEmpty(v.Field(i)) {
			return false
		}
	}
	noteMay := len(o.Who) <= 1000 && len(o.Text) <= 1000 && o.Stamp >= 0 && o.Stamp <= 1<<40
	switch o.Kind {
	case 1:
		return len(o.Data) <= 1<<20
	case 2:
		may := len(o.Entries) <= 4096
		for i, e := range o.Entries {
			may = may && plainPart(e.Name) && len(e.Id) == 32 && (i == 0 || o.Entries[i-1].Name < e.Name)
		}
		return may
	case 3:
		may := len(o.Tree) == 32 && len(o.Parents) <= 4
		seen := map[string]int{}
		for _, id := range o.Parents {
			seen[id]++
			may = may && len(id) == 32 && seen[id] == 1
		}
		return may && noteMay
	}
	return len(o.Target) == 32 && len(o.Name) >= 1 && len(o.Name) <= 200 && noteMay
}

// plainBytes are an object's, by the table's rows; also of one that may not be, as long as its kind is one.
func plainBytes(o api.Object) []byte {
	b := []byte{byte(o.Kind)}
	switch o.Kind {
	case 1:
		return join(b, o.Data)
	case 2:
		l := [][]byte{b, num(len(o.Entries))}
		for _, e := range o.Entries {
			l = append(l, row(text(e.Name), map[bool]int{true: 1}[e.Dir], e.Id))
		}
		return join(l...)
	case 3:
		b = row(b, o.Tree, num(len(o.Parents)), strings.Join(o.Parents, ""))
	case 4:
		b = row(b, o.Target, text(o.Name))
	}
	return row(b, text(o.Who), num(o.Stamp), text(o.Text))
}

// plainReader takes what the rows name, and asks nothing but whether it is there.
type plainReader struct {
	b   []byte
	bad bool
}

func (r *plainReader) bytes(n int) string {
	if n < 0 || n > len(r.b) {
		r.b, r.bad = nil, true
		return ""
	}
	s := string(r.b[:n])
	r.b = r.b[n:]
	return s
}

func (r *plainReader) num() int {
	n, size := binary.Uvarint(r.b)
	r.bytes(max(size, 0))
	r.bad = r.bad || size <= 0
	return int(n)
}

func (r *plainReader) note(o *api.Object) {
	o.Who, o.Stamp = r.bytes(r.num()), r.num()
	o.Text = r.bytes(r.num())
}

// plainObject is P6.2: bytes are read however they go, and refused unless the object's own are just these.
func plainObject(b []byte) (api.Object, api.Errno) {
	r := &plainReader{b: b}
	var o api.Object
	if kind := r.bytes(1); kind != "" {
		o.Kind = int(kind[0])
	}
	switch o.Kind {
	case 1:
		o.Data = []byte(r.bytes(len(r.b)))
	case 2:
		for n := r.num(); n > 0 && !r.bad; n-- {
			name := r.bytes(r.num())
			flag := r.bytes(1)
			o.Entries = append(o.Entries, api.Entry{Name: name, Dir: flag == "\x01", Id: r.bytes(32)})
		}
	case 3:
		o.Tree = r.bytes(32)
		for n := r.num(); n > 0 && !r.bad; n-- {
			o.Parents = append(o.Parents, r.bytes(32))
		}
		r.note(&o)
	case 4:
		o.Target = r.bytes(32)
		o.Name = r.bytes(r.num())
		r.note(&o)
	}
	if r.bad || !plainMay(o) || !bytes.Equal(plainBytes(o), b) {
		return api.Object{}, api.ErrCorrupt
	}
	return o, api.OK
}

// plainLinks is P6.3.
func plainLinks(o api.Object) []string {
	var l []string
	switch {
	case !plainMay(o):
	case o.Kind == 2:
		for _, e := range o.Entries {
			l = append(l, e.Id)
		}
	case o.Kind == 3:
		l = append(append(l, o.Tree), o.Parents...)
	case o.Kind == 4:
		l = append(l, o.Target)
	}
	return l
}

// same: are two objects one? A list without elements may be nil or not.
func same(o, p api.Object) bool {
	lists := bytes.Equal(o.Data, p.Data) && slices.Equal(o.Entries, p.Entries) && slices.Equal(o.Parents, p.Parents)
	o.Data, o.Entries, o.Parents, p.Data, p.Entries, p.Parents = nil, nil, nil, nil, nil, nil
	return lists && reflect.DeepEqual(o, p)
}

// told is an object as a short text.
func told(o api.Object) string {
	s := fmt.Sprintf("%+q", fmt.Sprint(o.Kind, o.Entries, o.Tree, o.Parents, o.Target, o.Name, o.Who, o.Stamp, o.Text))
	return s[:min(len(s), 300)] + " of " + strconv.Itoa(len(o.Data)) + " bytes"
}

// mustHold holds all calls at one object against the document word for word.
func mustHold(t *testing.T, o api.Object) {
	t.Helper()
	var b []byte
	var id string
	want := api.ErrArg
	if plainMay(o) {
		b = plainBytes(o)
		id, want = sum.Sum(b), api.OK
	}
	if err := object.Check(o); err != want {
		t.Errorf("Check(%s): %v, want %v", told(o), err, want)
	}
	if got, err := object.Encode(o); err != want || !bytes.Equal(got, b) || err != api.OK && got != nil {
		t.Errorf("Encode(%s): %.100q, %v, want %.100q, %v", told(o), got, err, b, want)
	}
	if got, err := object.Id(o); err != want || got != id {
		t.Errorf("Id(%s): %x, %v, want %x, %v", told(o), got, err, id, want)
	}
	if got := object.Links(o); !slices.Equal(got, plainLinks(o)) {
		t.Errorf("Links(%s): %q, want %q", told(o), got, plainLinks(o))
	}
	if want == api.OK {
		mustDecode(t, b, o)
	}
}

// mustBe holds that an object may be, or may not, beside all that mustHold holds.
func mustBe(t *testing.T, may bool, o api.Object) {
	t.Helper()
	if plainMay(o) != may {
		t.Errorf("the tests' own words say of %s: %v", told(o), !may)
	}
	mustHold(t, o)
	if o.Kind >= 1 && o.Kind <= 4 && !may { // its bytes are those of no other object, unless a field got lost
		mustAsPlain(t, plainBytes(o))
	}
}

// mustDecode holds that bytes are an object's.
func mustDecode(t *testing.T, b []byte, o api.Object) {
	t.Helper()
	if got, err := object.Decode(b); err != api.OK || !same(got, o) {
		t.Errorf("Decode(%.100q): %s, %v, want %s", b, told(got), err, told(o))
	}
}

// mustRefuse holds that bytes are none's, with nothing beside the error.
func mustRefuse(t *testing.T, b []byte) {
	t.Helper()
	if got, err := object.Decode(b); err != api.ErrCorrupt || !reflect.DeepEqual(got, api.Object{}) {
		t.Errorf("Decode(%.200q of %d bytes): %s, %v, want ErrCorrupt", b, len(b), told(got), err)
	}
}

// mustAsPlain holds Decode against the document word for word, and Encode of what it answers.
func mustAsPlain(t *testing.T, b []byte) {
	t.Helper()
	o, err := plainObject(b)
	if err != api.OK {
		mustRefuse(t, b)
		return
	}
	mustDecode(t, b, o)
	got, _ := object.Decode(b)
	if again, err := object.Encode(got); err != api.OK || !bytes.Equal(again, b) {
		t.Errorf("Encode of Decode(%.100q): %.100q, %v", b, again, err)
	}
}

// some are objects of all kinds, with their bytes.
func some() []struct {
	o api.Object
	b []byte
} {
	return []struct {
		o api.Object
		b []byte
	}{
		{blob(""), row(1)},
		{blob("hi"), row(1, "hi")},
		{blob("\x00\x01\xff"), row(1, 0, 1, 255)},
		{tree(), row(2, 0)},
		{tree(file("a", idA)), row(2, 1, 1, "a", 0, idA)},
		{tree(dir("a", idNul)), row(2, 1, 1, "a", 1, idNul)},
		{tree(file("A", idTop), dir("B", idA), file("a", idA), dir("a.", idB), file("ab", idC), file("\xff", idA)), row(2, 6, 1, "A", 0, idTop, 1, "B", 1, idA, 1, "a", 0, idA, 2, "a.", 1, idB, 2, "ab", 0, idC, 1, 255, 0, idA)},
		{noted(commit(idA), "a", 5, ""), row(3, idA, 0, 1, "a", 5, 0)},
		{commit(idNul), row(3, idNul, 0, 0, 0, 0)},
		{noted(commit(idA, idA), "", 300, "why"), row(3, idA, 1, idA, 0, 0xAC, 2, 3, "why")},
		{noted(commit(idA, idC, idB, idTop, idNul), "who\x00", 127, "\n"), row(3, idA, 4, idC, idB, idTop, idNul, 4, "who", 0, 127, 1, "\n")},
		{tag(idA, "v"), row(4, idA, 1, "v", 0, 0, 0)},
		{noted(tag(idTop, "a/b \x00"), "w", 1<<40, "\xff"), row(4, idTop, 5, "a/b ", 0, 1, "w", 128, 128, 128, 128, 128, 32, 1, 255)},
	}
}

// TestExample: the document's own.
func TestExample(t *testing.T) {
	for _, k := range []struct {
		o api.Object
		b []byte
	}{
		{blob("hi"), []byte{1, 0x68, 0x69}},
		{tree(), []byte{2, 0}},
		{noted(commit(idA), "a", 5, ""), []byte("\x03" + idA + "\x00\x01\x61\x05\x00")},
	} {
		if b, err := object.Encode(k.o); err != api.OK || !bytes.Equal(b, k.b) {
			t.Errorf("Encode(%s): % x, %v, want % x", told(k.o), b, err, k.b)
		}
		mustDecode(t, k.b, k.o)
	}
}

// TestPart (P6.1): 1 to 100 bytes, none of them 0 or "/", and neither "." nor "..".
func TestPart(t *testing.T) {
	for _, s := range parts {
		if !object.Part(s) {
			t.Errorf("Part(%.120q): false", s)
		}
	}
	for _, s := range wrongParts {
		if object.Part(s) {
			t.Errorf("Part(%.120q): true", s)
		}
	}
	for n := range 110 {
		for c := range 256 {
			s := strings.Repeat("n", n) + string([]byte{byte(c)})
			if got, want := object.Part(s), plainPart(s); got != want {
				t.Errorf("Part(%q): %v, want %v", s, got, want)
			}
		}
	}
}

// TestEncodeKnown (P6.1, P6.2, P6.4): the kind's byte and the bytes of its row, the sum of these, and back.
func TestEncodeKnown(t *testing.T) {
	for _, k := range some() {
		if b, err := object.Encode(k.o); err != api.OK || !bytes.Equal(b, k.b) {
			t.Errorf("Encode(%s): %q, %v, want %q", told(k.o), b, err, k.b)
		}
		if id, err := object.Id(k.o); err != api.OK || id != sum.Sum(k.b) || len(id) != 32 {
			t.Errorf("Id(%s): %x, %v, want %x", told(k.o), id, err, sum.Sum(k.b))
		}
		mustBe(t, true, k.o)
		mustAsPlain(t, k.b)
	}
}

// TestLinksKnown (P6.3): in the order of the object's bytes, as often as they stand there; none of a blob, or of what may not be.
func TestLinksKnown(t *testing.T) {
	bad := commit(idA, idB)
	bad.Stamp = -1
	for _, k := range []struct {
		o    api.Object
		want []string
	}{
		{blob(idA), nil},
		{tree(), nil},
		{tree(file("a", idB), dir("b", idA), file("c", idB)), []string{idB, idA, idB}},
		{commit(idA), []string{idA}},
		{commit(idB, idC, idA, idB), []string{idB, idC, idA, idB}},
		{tag(idC, "v"), []string{idC}},
		{api.Object{}, nil},
		{tree(file("b", idB), file("a", idA)), nil},
		{tree(file("b", idB[:31])), nil},
		{bad, nil},
		{commit(idA, idB, idB), nil},
		{tag(idC, ""), nil},
	} {
		if got := object.Links(k.o); !slices.Equal(got, k.want) {
			t.Errorf("Links(%s): %q, want %q", told(k.o), got, k.want)
		}
	}
}

// TestKinds (P6.1, P6.2): there are four of them, in an object as in its byte.
func TestKinds(t *testing.T) {
	for _, kind := range []int{0, -1, -2, -255, 5, 6, 256, 257, 258, 259, 260, 1 << 32, 1<<32 + 1, math.MaxInt, math.MinInt, math.MinInt + 1} {
		for _, k := range some() {
			k.o.Kind = kind
			mustBe(t, false, k.o)
		}
		mustBe(t, false, api.Object{Kind: kind})
	}
	for c := range 256 {
		mustAsPlain(t, []byte{byte(c)})
		for _, k := range some() {
			mustAsPlain(t, join([]byte{byte(c)}, k.b[1:]))
		}
		if c < 1 || c > 4 {
			mustRefuse(t, []byte{byte(c)})
			mustRefuse(t, []byte{byte(c), 0})
		}
	}
}

// TestUnnamed (P6.1): every field that the row does not name is empty; a list without elements is that.
func TestUnnamed(t *testing.T) {
	full := api.Object{Data: []byte{0}, Entries: []api.Entry{{}}, Tree: idA, Parents: []string{""}, Target: idA, Name: "n", Who: "w", Stamp: 1, Text: "t"}
	none := api.Object{Data: []byte{}, Entries: []api.Entry{}, Parents: []string{}}
	for _, k := range some() {
		fields := reflect.TypeFor[api.Object]()
		for i := range fields.NumField() {
			f := fields.Field(i).Name
			if f == "Kind" || slices.Contains(named(k.o.Kind), f) {
				continue
			}
			o, p := k.o, k.o
			reflect.ValueOf(&o).Elem().Field(i).Set(reflect.ValueOf(full).Field(i))
			mustBe(t, false, o)
			reflect.ValueOf(&p).Elem().Field(i).Set(reflect.ValueOf(none).Field(i))
			mustBe(t, true, p)
		}
	}
	for _, o := range []api.Object{noted(blob(""), "", -1, ""), noted(tree(), "", math.MinInt, ""), {Kind: 1, Tree: "x"}, {Kind: 2, Target: "\x00"}, {Kind: 3, Tree: idA, Name: "\x00"}, {Kind: 4, Target: idA, Name: "n", Parents: []string{idA}}, {Kind: 4, Target: idA, Name: "n", Tree: idA}} {
		mustBe(t, false, o)
	}
}

// TestBlob (P6.1, P6.2): at most MaxBytes.
func TestBlob(t *testing.T) {
	for _, n := range []int{0, 1, 127, 128, 1 << 16, api.MaxBytes - 1, api.MaxBytes} {
		mustBe(t, true, blob(strings.Repeat("\x01", n)))
	}
	mustBe(t, true, api.Object{Kind: 1})
	for _, n := range []int{api.MaxBytes + 1, api.MaxBytes + 2, 2 * api.MaxBytes} {
		mustBe(t, false, blob(strings.Repeat("\x01", n)))
		mustRefuse(t, []byte(strings.Repeat("\x01", n+1)))
	}
}

// TestEntries (P6.1, P6.2): at most MaxList, each with a part and an id; they rise by the bytes of their names, be they files or directories.
func TestEntries(t *testing.T) {
	for _, n := range []int{1, 2, 127, 128, 4095, 4096} {
		mustBe(t, true, tree(rising(n, 10)...))
	}
	mustBe(t, false, tree(rising(4097, 10)...))
	mustBe(t, false, tree(rising(5000, 4)...))
	for _, s := range parts {
		mustBe(t, true, tree(file(s, idA)))
		mustBe(t, true, tree(dir(s, idA)))
	}
	for _, s := range wrongParts {
		mustBe(t, false, tree(file(s, idA)))
		mustBe(t, false, tree(file("-", idA), dir(s, idA), file("~", idA)))
	}
	for _, id := range wrongIds {
		mustBe(t, false, tree(file("a", id)))
		mustBe(t, false, tree(dir("a", idA), file("b", id), dir("c", idB)))
	}
	for _, l := range [][]string{{"a", "b"}, {"B", "a"}, {"a", "aa"}, {"a", "a\x01"}, {"a.", "aa"}, {"a", "a-b", "a.b", "a0"}, {"a", "z", "\x7f", "\x80", "\xc3\xa9", "\xff"}, {"\xef\xbf\xbf", "\xf0\x90\x80\x80"}} {
		for _, e := range []api.Entry{file("", idA), dir("", idA)} {
			mustBe(t, true, tree(called(l, e)...))
			slices.Reverse(l)
			mustBe(t, false, tree(called(l, e)...))
			mustBe(t, false, tree(called([]string{l[0], l[0]}, e)...))
			slices.Reverse(l)
		}
	}
	mustBe(t, false, tree(file("a", idA), dir("a", idB)))
	mustBe(t, false, tree(dir("a", idA), file("a", idB)))
	mustBe(t, false, tree(file("a", idA), file("c", idA), file("b", idA)))
	mustBe(t, false, tree(file("b", idA), file("a", idA), file("c", idA)))
	mustBe(t, false, tree(file("a", idA), file("b", idA), file("a", idA)))
	for i := range 7 { // two that change places, anywhere
		l := rising(8, 5)
		l[i].Name, l[i+1].Name = l[i+1].Name, l[i].Name
		mustBe(t, false, tree(l...))
		l[i].Name = l[i+1].Name
		mustBe(t, false, tree(l...))
	}
}

// called are entries of these names, like e.
func called(names []string, e api.Entry) []api.Entry {
	var l []api.Entry
	for _, e.Name = range names {
		l = append(l, e)
	}
	return l
}

// TestCommit (P6.1, P6.2): a tree's id, at most MaxUp parents, none twice.
func TestCommit(t *testing.T) {
	ids := []string{idA, idB, idC, idNul, idTop}
	for n := range 5 {
		mustBe(t, true, commit(append([]string{idA}, ids[:n]...)...))
	}
	mustBe(t, false, commit(append([]string{idA}, ids...)...))
	for _, id := range wrongIds {
		mustBe(t, false, commit(id))
		mustBe(t, false, commit(id, idB))
		for i := range 4 {
			l := slices.Clone(ids[:4])
			l[i] = id
			mustBe(t, false, commit(append([]string{idA}, l...)...))
		}
	}
	for n := 2; n <= 4; n++ {
		for i := range n {
			for k := range i {
				l := slices.Clone(ids[:n])
				l[i] = l[k]
				mustBe(t, false, commit(append([]string{idTop}, l...)...))
			}
		}
	}
}

// TestTag (P6.1, P6.2): a target's id, and a name of 1 to MaxName bytes.
func TestTag(t *testing.T) {
	for _, n := range []int{1, 2, 127, 128, 199, 200} {
		mustBe(t, true, tag(idA, strings.Repeat("\x00", n)))
	}
	for _, n := range []int{0, 201, 202, 1000, 1 << 16} {
		mustBe(t, false, tag(idA, strings.Repeat("n", n)))
	}
	mustBe(t, true, tag(idA, "/../\x00"))
	mustBe(t, false, tag(idA, strings.Repeat("é", 101)))
	for _, id := range wrongIds {
		mustBe(t, false, tag(id, "n"))
	}
}

// TestNote (P6.1, P6.2): of commits and tags alike Who and Text have at most MaxText bytes, and Stamp is 0 to MaxNum.
func TestNote(t *testing.T) {
	for _, o := range []api.Object{commit(idA), commit(idA, idB, idC), tag(idA, "n")} {
		for _, n := range []int{0, 1, 127, 128, 999, 1000} {
			mustBe(t, true, noted(o, strings.Repeat("w", n), 7, "t"))
			mustBe(t, true, noted(o, "w", 7, strings.Repeat("\xff", n)))
		}
		for _, n := range []int{1001, 1002, 1 << 14, 1 << 20} {
			mustBe(t, false, noted(o, strings.Repeat("w", n), 7, "t"))
			mustBe(t, false, noted(o, "w", 7, strings.Repeat("t", n)))
		}
		mustBe(t, false, noted(o, strings.Repeat("é", 501), 7, ""))
		for _, n := range []int{0, 1, 127, 128, 1 << 31, 1 << 32, 1<<40 - 1, 1 << 40} {
			mustBe(t, true, noted(o, "w", n, "t"))
		}
		for _, n := range []int{-1, -2, -1 << 40, 1<<40 + 1, 1 << 41, 1 << 62, math.MaxInt, math.MinInt} {
			mustBe(t, false, noted(o, "w", n, "t"))
		}
	}
}

// TestDecodeCut (P6.2): bytes that are cut off, or go on, or of which one is not there.
func TestDecodeCut(t *testing.T) {
	mustRefuse(t, nil)
	mustRefuse(t, []byte{})
	for _, k := range some() {
		for n := range len(k.b) {
			mustAsPlain(t, k.b[:n])
			mustAsPlain(t, k.b[n:])
			mustAsPlain(t, join(k.b[:n], k.b[n+1:]))
			if k.o.Kind != 1 {
				mustRefuse(t, k.b[:n])
			}
		}
		for _, more := range []string{"\x00", "\x01", "a", "\x80", "\xff", "\x00\x00", string(k.b), idA} {
			mustAsPlain(t, join(k.b, []byte(more)))
			if k.o.Kind != 1 {
				mustRefuse(t, join(k.b, []byte(more)))
			}
		}
	}
}

// TestDecodeWrong (P6.2): what no Encode answers, place by place.
func TestDecodeWrong(t *testing.T) {
	for _, b := range [][]byte{
		row(2), row(2, 128, 0), row(2, 128, 128, 0), row(2, 128), row(2, 255, 255, 255, 255, 255, 255, 255, 255, 127), row(2, 255, 255, 255, 255, 255, 255, 255, 255, 63), row(2, num(4097)), row(2, num(1<<62-1)), // how many entries
		row(2, 129, 0, 1, "a", 0, idA),
		row(2, 2, 1, "a", 0, idA), row(2, 3, 1, "a", 0, idA, 1, "b", 0, idA), // more than there are
		row(2, 0, 1, "a", 0, idA), row(2, 1, 1, "a", 0, idA, 1, "b", 0, idA), // fewer
		row(2, 1, 129, 0, "a", 0, idA), row(2, 1, 0, 0, idA), row(2, 1, 2, "a", 0, idA), row(2, 1, num(1<<40), "a", 0, idA), row(2, 1, 255, 255, 255, 255, 255, 255, 255, 255, 63, "a", 0, idA), // a name's length
		row(2, 1, 1, "a", 2, idA), row(2, 1, 1, "a", 255, idA), row(2, 1, 1, "a", 128, idA), row(2, 1, 1, "a", "1", idA), row(2, 1, 1, "a", 129, 0, idA), // neither a file nor a directory
		row(2, 1, 1, "a", 0, idA[1:]), row(2, 1, 1, "a", 0, 32, idA), row(2, 1, 1, "a", idA),
		row(3), row(3, idA), row(3, idA, 0), row(3, idA, 0, 0), row(3, idA, 0, 0, 0),
		row(3, idA[1:], 0, 0, 0, 0), row(3, 32, idA, 0, 0, 0, 0),
		row(3, idA, 128, 0, 0, 0, 0), row(3, idA, 1, 0, 0, 0), row(3, idA, 0, idB, 0, 0, 0), row(3, idA, 2, idB, 0, 0, 0), row(3, idA, 129, 0, idB, 0, 0, 0), row(3, idA, num(1<<62-1), idB, 0, 0, 0), // parents
		row(3, idA, 2, idB, idB, 0, 0, 0), row(3, idA, 5, idA, idB, idC, idNul, idTop, 0, 0, 0),
		row(3, idA, 0, 1, 0, 0), row(3, idA, 0, 129, 0, "w", 0, 0), row(3, idA, 0, num(1001), strings.Repeat("w", 1001), 0, 0), // Who
		row(3, idA, 0, 0, 128, 0, 0), row(3, idA, 0, 0, num(1<<40+1), 0), row(3, idA, 0, 0, num(1<<62-1), 0), row(3, idA, 0, 0, 255, 255, 255, 255, 255, 255, 255, 255, 127, 0), row(3, idA, 0, 0, 133, 128, 0, 0), // Stamp
		row(3, idA, 0, 0, 0, 1), row(3, idA, 0, 0, 0, 128, 0), row(3, idA, 0, 0, 0, 129, 0, "t"), row(3, idA, 0, 0, 0, num(1001), strings.Repeat("t", 1001)), // Text
		row(4), row(4, idA), row(4, idA, 0, 0, 0, 0), row(4, idA, 1, "n"), row(4, idA, 1, "n", 0), row(4, idA, 1, "n", 0, 0), row(4, idA[1:], 1, "n", 0, 0, 0),
		row(4, idA, 129, 0, "n", 0, 0, 0), row(4, idA, 2, "n", 0, 0, 0), row(4, idA, num(201), strings.Repeat("n", 201), 0, 0, 0),
		row(4, idA, 1, "n", 129, 0, "w", 0, 0), row(4, idA, 1, "n", 0, 128, 0, 0), row(4, idA, 1, "n", 0, num(1<<40+1), 0), row(4, idA, 1, "n", 0, 0, 128, 0), row(4, idA, 1, "n", 0, 0, 0, 0),
	} {
		mustRefuse(t, b)
		mustAsPlain(t, b)
	}
}

// TestDecodeTurned (P6.2, P6.4): each byte turned to each other one: refused, or the bytes of the object that is answered.
func TestDecodeTurned(t *testing.T) {
	for _, k := range some() {
		b := slices.Clone(k.b)
		for i := range b {
			for c := range 256 {
				b[i] = byte(c)
				mustAsPlain(t, b)
			}
			b[i] = k.b[i]
		}
	}
}

// dice is a row of numbers that is the same in each run of the tests.
type dice uint64

// below is the next number, below n.
func (d *dice) below(n int) int {
	*d = *d*6364136223846793005 + 1442695040888963407
	return int(uint64(*d)>>33) % n
}

// one is one of these.
func one[T any](d *dice, l ...T) T { return l[d.below(len(l))] }

// mostly is the first of these but rarely.
func mostly[T any](d *dice, usual T, l ...T) T {
	if d.below(12) > 0 {
		return usual
	}
	return one(d, l...)
}

// id is one that may be, or rarely one that may not.
func (d *dice) id() string {
	good := one(d, idA, idB, idC, idNul, idTop, sum.Sum([]byte{byte(d.below(9))}))
	return mostly(d, good, append(wrongIds, good)...)
}

// text is one, rarely too long.
func (d *dice) text() string {
	return mostly(d, strings.Repeat(one(d, "w", "\x00", "\xff", "a b"), d.below(5)), strings.Repeat("w", 1000), strings.Repeat("w", 1001))
}

// entries are some, rarely such as may not be.
func (d *dice) entries() []api.Entry {
	var l []api.Entry
	for range d.below(6) {
		name := mostly(d, one(d, parts...)+strconv.Itoa(d.below(100)), wrongParts...)
		l = append(l, api.Entry{Name: name, Dir: d.below(2) == 1, Id: d.id()})
	}
	if d.below(6) > 0 {
		slices.SortFunc(l, func(e, f api.Entry) int { return strings.Compare(e.Name, f.Name) })
		l = slices.CompactFunc(l, func(e, f api.Entry) bool { return e.Name == f.Name })
	}
	return l
}

// object is one, of which often nothing is wrong.
func (d *dice) object() api.Object {
	note := noted(api.Object{}, d.text(), mostly(d, d.below(1000), 0, -1, 1<<40, 1<<40+1), d.text())
	o := mostly(d, api.Object{}, note, blob("x"), tree(file("a", idA)), tag(idA, ""), commit(""), commit("", idB))
	switch o.Kind = mostly(d, 1+d.below(4), 0, 5, -1, 257); o.Kind {
	case 1:
		o.Data = []byte(d.text())
	case 2:
		o.Entries = d.entries()
	case 3:
		o = noted(o, note.Who, note.Stamp, note.Text)
		o.Tree = d.id()
		for range d.below(6) {
			if id := d.id(); d.below(8) == 0 || !slices.Contains(o.Parents, id) {
				o.Parents = append(o.Parents, id)
			}
		}
	case 4:
		o = noted(o, note.Who, note.Stamp, note.Text)
		o.Target, o.Name = d.id(), mostly(d, "n"+strconv.Itoa(d.below(1000)), "", strings.Repeat("n", 200), strings.Repeat("n", 201))
	}
	return o
}

// TestPlain (P6.1 to P6.4): a long row of objects, and of bytes that are nearly theirs, against the document word for word; what may be has bytes that nothing else has.
func TestPlain(t *testing.T) {
	d := dice(6)
	met := map[string]api.Object{}
	may := map[int]int{}
	for range 20000 {
		o := d.object()
		mustHold(t, o)
		if b, err := object.Encode(o); err == api.OK {
			may[o.Kind]++
			if p, ok := met[string(b)]; ok && !same(o, p) {
				t.Errorf("%s and %s have the same bytes", told(o), told(p))
			}
			met[string(b)] = o
		}
		if o.Kind < 1 || o.Kind > 4 || o.Stamp < 0 {
			continue
		}
		b := plainBytes(o)
		mustAsPlain(t, b)
		i := d.below(len(b))
		mustAsPlain(t, join(b[:i], []byte{byte(d.below(256))}, b[i+d.below(2):]))
		mustAsPlain(t, join(b[:i], b[d.below(len(b)):]))
	}
	for kind := 1; kind <= 4; kind++ {
		if may[kind] < 500 {
			t.Errorf("of kind %d only %d objects might be", kind, may[kind])
		}
	}
}

// TestHandedIn (R3): what is handed in is as it was, the room behind it, too, and no answer shares memory with it.
func TestHandedIn(t *testing.T) {
	data := []byte("hi and more")
	b, err := object.Encode(api.Object{Kind: 1, Data: data[:2]})
	clear(data)
	if err != api.OK || string(b) != "\x01hi" {
		t.Errorf("Encode of a blob: %q, %v", b, err)
	}
	entries, parents := []api.Entry{dir("a", idA), file("b", idB), file("c", idC)}, []string{idB, idC, idNul}
	o, p := tree(entries[:2]...), commit(idA)
	p.Parents = parents[:2]
	for _, o := range []api.Object{o, p} {
		mustHold(t, o)
		if l := object.Links(o); len(l) > 0 {
			clear(l[:cap(l)])
		}
	}
	if !slices.Equal(entries, []api.Entry{dir("a", idA), file("b", idB), file("c", idC)}) || !slices.Equal(parents, []string{idB, idC, idNul}) {
		t.Errorf("lists were changed: %v, %q", entries, parents)
	}
	for _, k := range some() {
		room := join(k.b, []byte("what stands behind"))
		got, err := object.Decode(room[:len(k.b)])
		if err != api.OK || !bytes.Equal(room, join(k.b, []byte("what stands behind"))) {
			t.Errorf("Decode changed %q, %v", k.b, err)
		}
		clear(room)
		if !same(got, k.o) {
			t.Errorf("Decode shares %q", k.b)
		}
	}
}

// TestNewMemory (R3): what is done to an answer turns nothing of another one.
func TestNewMemory(t *testing.T) {
	for _, k := range some() {
		b, _ := object.Encode(k.o)
		o, _ := object.Decode(b)
		l := object.Links(o)
		clear(l[:cap(l)])
		clear(o.Data[:cap(o.Data)])
		clear(o.Entries[:cap(o.Entries)])
		clear(o.Parents[:cap(o.Parents)])
		if !bytes.Equal(b, k.b) {
			t.Errorf("Decode shares what Encode answered: %q", b)
		}
		o, _ = object.Decode(b)
		clear(b[:cap(b)])
		if !same(o, k.o) {
			t.Errorf("Decode of %q shares it", k.b)
		}
		mustHold(t, k.o)
	}
}

// TestGreat (P6.4, P1): the greatest objects, and what they cost.
func TestGreat(t *testing.T) {
	l := rising(4096, 100)
	mustBe(t, true, tree(l...))
	if b, err := object.Encode(tree(l...)); err != api.OK || len(b) != 3+4096*134 {
		t.Errorf("%d bytes, %v", len(b), err)
	}
	long := strings.Repeat("w", 1000)
	mustBe(t, true, noted(commit(idA, idB, idC, idTop, idNul), long, 1<<40, long))
	mustBe(t, true, noted(tag(idA, long[:200]), long, 1<<40, long))
	mustRefuse(t, join([]byte{2}, num(4096), bytes.Repeat([]byte{0xff}, 4<<20)))
	mustRefuse(t, bytes.Repeat([]byte{2}, 4<<20))
	mustRefuse(t, bytes.Repeat([]byte{3}, 4<<20))
	mustRefuse(t, bytes.Repeat([]byte{4}, 4<<20))
	mustRefuse(t, bytes.Repeat([]byte{0xff}, 4<<20))
}

// TestAllEnd (P1): every call ends, whatever it is given, with nothing beside an error.
func TestAllEnd(t *testing.T) {
	texts := []string{"", "a", ".", "\x00", "/", idA, idA[1:], idA + "b", strings.Repeat("n", 1001), strings.Repeat("\xff", 1<<20)}
	numbers := []int{0, 1, -1, 1 << 40, 1<<40 + 1, math.MaxInt, math.MinInt}
	for kind := -1; kind <= 6; kind++ {
		for _, s := range texts {
			for _, n := range numbers {
				mustHold(t, api.Object{Kind: kind, Tree: s, Who: s, Stamp: n, Text: s})
				mustHold(t, api.Object{Kind: kind, Target: s, Name: s, Who: s, Stamp: n, Text: s})
				mustHold(t, api.Object{Kind: kind, Tree: idA, Parents: []string{s, s}, Stamp: n})
				mustHold(t, api.Object{Kind: kind, Entries: []api.Entry{{Name: s, Id: s}, {}}, Stamp: n})
				mustHold(t, api.Object{Kind: kind, Data: []byte(s), Stamp: n})
			}
			object.Part(s)
			mustAsPlain(t, []byte(s))
		}
	}
}
