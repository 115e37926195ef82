package vault_test

import (
	"bytes"
	"encoding/binary"
	"hash/crc32"
	"slices"
	"strconv"
	"testing"

	"decamp/api"
	"decamp/disk"
	"decamp/vault"
)

// top is MaxRev, most and whole how many bytes of Data an entry and a snap may have: written out, so that these tests hold them too.
const (
	top   = 1 << 40
	most  = 12000
	whole = 50000
)

func mustBe(t *testing.T, want, got api.Errno) {
	t.Helper()
	if got != want {
		t.Fatalf("%v, want %v", got, want)
	}
}

func newDisk(t *testing.T, room int) *disk.Disk {
	t.Helper()
	d, e := disk.New(room)
	mustBe(t, api.OK, e)
	return d
}

// lay lets a file have these bytes behind its others: the first ones are safe, the others wait.
func lay(t *testing.T, d *disk.Disk, name, safe, waiting string) {
	t.Helper()
	if safe != "" {
		mustBe(t, api.OK, d.Append(name, []byte(safe)))
		mustBe(t, api.OK, d.Sync(name))
	}
	mustBe(t, api.OK, d.Append(name, []byte(waiting)))
}

// file is how a test tells of a file: its name, its safe bytes, and those that wait.
func file(name, safe, waiting string) string {
	return name + "=" + safe + "|" + waiting
}

// files are those of a disk, lost or not, rising.
func files(t *testing.T, d *disk.Disk) []string {
	t.Helper()
	all, got := d, []string{}
	if d.Lost() {
		all = d.Clone()
		all.Restart(slices.Repeat([]int{-1}, len(d.Names()))...)
	}
	for _, name := range d.Names() {
		b, e := all.Read(name)
		mustBe(t, api.OK, e)
		n := d.Safe(name)
		got = append(got, file(name, string(b[:n]), string(b[n:])))
	}
	return got
}

// has holds that a disk has just these files, rising.
func has(t *testing.T, d *disk.Disk, want ...string) {
	t.Helper()
	if got := files(t, d); !slices.Equal(got, want) {
		t.Fatalf("%.400q, want %.400q", got, want)
	}
}

// takes holds that what is done takes just so many deeds of a disk: it is done to one that is as d is.
func takes(t *testing.T, d *disk.Disk, deeds int, do func(d *disk.Disk)) {
	t.Helper()
	c := d.Clone()
	mustBe(t, api.OK, c.Fuse(deeds))
	do(c)
	if c.Lost() {
		t.Fatalf("lost within %d deeds", deeds)
	}
	mustBe(t, api.ErrLost, c.Append("~", nil))
}

// lose lets the power of a disk go, whose files stay as they are.
func lose(t *testing.T, d *disk.Disk) {
	t.Helper()
	mustBe(t, api.OK, d.Fuse(0))
	mustBe(t, api.ErrLost, d.Append("~", nil))
}

// num is a number as bytes.
func num(v int64) string {
	return string(binary.BigEndian.AppendUint64(nil, uint64(v)))
}

// placed is an entry, or a snap, as bytes, right or not.
func placed(index, term int64, data string) string {
	return num(index) + num(term) + string(binary.BigEndian.AppendUint32(nil, uint32(len(data)))) + data
}

// hardRec is the record of what is hard, right or not.
func hardRec(term, vote int64) string {
	return "\x01" + num(term) + num(vote)
}

// entryRec is the record of an entry.
func entryRec(x api.Entry) string {
	return "\x02" + placed(x.Index, x.Term, string(x.Data))
}

// recs are the records of what is hard, and of entries.
func recs(h api.Hard, l ...api.Entry) []string {
	return append([]string{hardRec(h.Term, int64(h.Vote))}, recsOf(l...)...)
}

// recsOf are the records of entries.
func recsOf(l ...api.Entry) []string {
	records := []string{}
	for _, x := range l {
		records = append(records, entryRec(x))
	}
	return records
}

// framed is the frames of records, as layer 6 has them, without the program's code.
func framed(records ...string) string {
	all := ""
	for _, r := range records {
		length := binary.BigEndian.AppendUint32(nil, uint32(len(r)))
		all += string(binary.BigEndian.AppendUint32(length, crc32.ChecksumIEEE(append(slices.Clone(length), r...)))) + r
	}
	return all
}

// framedSnap is what the file of a snap has.
func framedSnap(s api.Snap) string {
	return framed(placed(s.Index, s.Term, string(s.Data)))
}

// one is an entry, with Data that tells what it is.
func one(index, term int64) api.Entry {
	return api.Entry{Index: index, Term: term, Data: []byte(strconv.FormatInt(index, 10) + "." + strconv.FormatInt(term, 10))}
}

// run is entries from an index on, of these terms.
func run(index int64, terms ...int64) []api.Entry {
	l := []api.Entry{}
	for n, term := range terms {
		l = append(l, one(index+int64(n), term))
	}
	return l
}

// snapAt is a snap with Data that tells what it is.
func snapAt(index, term int64) api.Snap {
	s := api.Snap(one(index, term))
	s.Data = append([]byte("up to "), s.Data...)
	return s
}

// long is so many bytes, each another one than those around it.
func long(size int) []byte {
	b := make([]byte, size)
	for i := range b {
		b[i] = byte(i * 7)
	}
	return b
}

// spoil writes over bytes, and all of their spare room.
func spoil(b []byte) {
	b = b[:cap(b)]
	for i := range b {
		b[i] = '-'
	}
}

// state is what a vault has.
type state struct {
	h api.Hard
	s api.Snap
	l []api.Entry
}

// unborn is what is hard where nothing is.
var unborn = api.Hard{Term: 0, Vote: -1}

func sameEntry(a, b api.Entry) bool {
	return a.Index == b.Index && a.Term == b.Term && bytes.Equal(a.Data, b.Data)
}

func (a state) is(b state) bool {
	return a.h == b.h && sameEntry(api.Entry(a.s), api.Entry(b.s)) && slices.EqualFunc(a.l, b.l, sameEntry)
}

// text is a state to be read.
func (a state) text() string {
	s := "hard " + strconv.FormatInt(a.h.Term, 10) + "/" + strconv.Itoa(a.h.Vote) + ", snap " + strconv.FormatInt(a.s.Index, 10) + "." + strconv.FormatInt(a.s.Term, 10) + ", entries"
	for _, x := range a.l {
		s += " " + strconv.FormatInt(x.Index, 10) + "." + strconv.FormatInt(x.Term, 10)
	}
	return s
}

// opens opens a vault, and holds that it has this.
func opens(t *testing.T, d *disk.Disk, want state) *vault.Vault {
	t.Helper()
	v, h, s, l, e := vault.Open(d)
	got := state{h, s, l}
	if v == nil || e != api.OK || !got.is(want) {
		t.Fatalf("Open: %v, %v, %v; want %v", v != nil, got.text(), e, want.text())
	}
	return v
}

// refuses holds that Open answers that error, and nothing beside it.
func refuses(t *testing.T, d *disk.Disk, want api.Errno) {
	t.Helper()
	v, h, s, l, e := vault.Open(d)
	if v != nil || h != (api.Hard{}) || !sameEntry(api.Entry(s), api.Entry{}) || len(l) > 0 || e != want {
		t.Fatalf("Open: %v, %v, %v; want %v", v != nil, state{h, s, l}.text(), e, want)
	}
}

// R1: a nil vault, and a nil disk, answer ErrArg, whatever else is wrong or right.
func TestNil(t *testing.T) {
	refuses(t, nil, api.ErrArg)
	var v *vault.Vault
	for _, h := range []api.Hard{unborn, {}, {Term: 3, Vote: 1}, {Term: -1}} {
		for _, l := range [][]api.Entry{nil, {}, run(1, 1), run(4, 2, 2), {{}}} {
			mustBe(t, api.ErrArg, v.Save(h, l))
			for _, s := range []api.Snap{{}, snapAt(3, 2), {Index: -1}} {
				mustBe(t, api.ErrArg, v.Keep(h, s, l))
			}
		}
	}
}

// P10.1: the chapter's example. Files of other names are nothing to a vault.
func TestOpenEmpty(t *testing.T) {
	d := newDisk(t, 1000)
	empty := state{h: unborn}
	takes(t, d, 0, func(d *disk.Disk) { opens(t, d, empty) })
	opens(t, d, empty)
	has(t, d)
	lay(t, d, "snap+", framedSnap(snapAt(3, 1)), "")
	lay(t, d, "wal+", framed(recs(api.Hard{Term: 3, Vote: 1}, run(1, 1)...)...), "x")
	lay(t, d, "sna", "", "y")
	lay(t, d, "snap1", "z", "")
	lay(t, d, "Wal", "z", "z")
	want := files(t, d)
	takes(t, d, 0, func(d *disk.Disk) { opens(t, d, empty) })
	opens(t, d, empty)
	has(t, d, want...)
	opens(t, newDisk(t, 0), empty)
}

// P10.1, P10.2: a vault from its beginning on, opened again behind each call, and what lies on the disk then.
func TestOrdinary(t *testing.T) {
	d := newDisk(t, 10000)
	v := opens(t, d, state{h: unborn})
	one, two := api.Hard{Term: 1, Vote: 0}, api.Hard{Term: 2, Vote: -1}
	mustBe(t, api.OK, v.Save(one, nil))
	opens(t, d, state{h: one})
	mustBe(t, api.OK, v.Save(one, run(1, 1, 1)))
	opens(t, d, state{h: one, l: run(1, 1, 1)})
	mustBe(t, api.OK, v.Save(two, run(3, 1, 2)))
	opens(t, d, state{h: two, l: run(1, 1, 1, 1, 2)})
	has(t, d, file("wal", framed(slices.Concat(recs(one, run(1, 1, 1)...), recs(two, run(3, 1, 2)...))...), ""))
	mustBe(t, api.OK, v.Keep(two, snapAt(3, 1), run(4, 2)))
	v = opens(t, d, state{h: two, s: snapAt(3, 1), l: run(4, 2)})
	has(t, d, file("snap", framedSnap(snapAt(3, 1)), ""), file("wal", framed(recs(two, run(4, 2)...)...), ""))
	mustBe(t, api.OK, v.Save(two, run(5, 2)))
	mustBe(t, api.OK, v.Keep(two, snapAt(9, 2), nil))
	opens(t, d, state{h: two, s: snapAt(9, 2)})
	has(t, d, file("snap", framedSnap(snapAt(9, 2)), ""), file("wal", framed(recs(two)...), ""))
}

// P10.2: a vault lies on the disk that was handed in, itself, and what was saved is safe at once.
func TestSafeAtOnce(t *testing.T) {
	d := newDisk(t, 10000)
	v := opens(t, d, state{h: unborn})
	h := api.Hard{Term: 7, Vote: 2}
	mustBe(t, api.OK, v.Save(h, run(1, 3)))
	d.Restart()
	v = opens(t, d, state{h: h, l: run(1, 3)})
	mustBe(t, api.OK, v.Keep(h, snapAt(1, 3), run(2, 3, 4)))
	d.Restart()
	opens(t, d, state{h: h, s: snapAt(1, 3), l: run(2, 3, 4)})
}

// R3: what Open hands out is new memory, spare room too, and no two of it share any.
func TestAnswered(t *testing.T) {
	d := newDisk(t, 10000)
	h := api.Hard{Term: 4, Vote: 1}
	lay(t, d, "snap", framedSnap(snapAt(3, 1)), "")
	// Some of the entries were replaced, and some are gone by the snap, so that their room is spare.
	lay(t, d, "wal", framed(slices.Concat(recs(h, run(2, 1, 1, 1, 1, 1)...), recsOf(run(5, 2, 2)...))...), "")
	want := state{h: h, s: snapAt(3, 1), l: []api.Entry{one(4, 1), one(5, 2), one(6, 2)}}
	for range 2 {
		// The second time no Reset is needed.
		v, gotHard, gotSnap, got, e := vault.Open(d)
		mustBe(t, api.OK, e)
		_, _, otherSnap, other, e := vault.Open(d)
		mustBe(t, api.OK, e)
		lies := files(t, d)
		spoil(got[1].Data)
		spoil(gotSnap.Data)
		if !sameEntry(got[0], want.l[0]) || !sameEntry(got[2], want.l[2]) {
			t.Fatal("two entries, or an entry and the snap, share memory")
		}
		got = got[:cap(got)]
		for i := range got {
			spoil(got[i].Data)
			got[i] = api.Entry{Index: -1}
		}
		if !(state{h, otherSnap, other}).is(want) {
			t.Fatal("two answers share memory")
		}
		has(t, d, lies...)
		opens(t, d, want)
		mustBe(t, api.OK, v.Save(gotHard, nil))
		has(t, d, lies...)
	}
}

// given are entries whose Data have spare room, and all of that memory.
func given(l []api.Entry) ([]api.Entry, []byte) {
	room := make([]byte, 0, 1000)
	list := make([]api.Entry, 0, len(l)+3)
	for _, x := range l {
		at := len(room)
		room = append(append(room, x.Data...), "room"...)
		list = append(list, api.Entry{Index: x.Index, Term: x.Term, Data: room[at : at+len(x.Data)]})
	}
	return list, room
}

// R3: what is handed in is left as it is, its spare room too, and isn't kept.
func TestHandedIn(t *testing.T) {
	h := api.Hard{Term: 4, Vote: 1}
	for _, keep := range []bool{false, true} {
		d := newDisk(t, 10000)
		v := opens(t, d, state{h: unborn})
		want := state{h: h, l: run(4, 2, 2, 3)}
		l, room := given(want.l)
		text := []byte("up to 3.1, and more")
		was := string(room)
		if keep {
			want.s = api.Snap{Index: 3, Term: 1, Data: []byte("up to 3.1")}
			mustBe(t, api.OK, v.Keep(h, api.Snap{Index: 3, Term: 1, Data: text[:9]}, l))
		} else {
			mustBe(t, api.OK, v.Save(h, l))
			// Of no snap the entries wouldn't go with it.
			want.s = snapAt(3, 1)
			lay(t, d, "snap", framedSnap(want.s), "")
		}
		if string(room) != was || string(text) != "up to 3.1, and more" || !slices.EqualFunc(l, want.l, sameEntry) {
			t.Fatal("what was handed in was changed")
		}
		for _, x := range l[len(l):cap(l)] {
			if !sameEntry(x, api.Entry{}) {
				t.Fatal("the spare room of what was handed in was changed")
			}
		}
		lies := files(t, d)
		spoil(room)
		spoil(text)
		clear(l)
		has(t, d, lies...)
		opens(t, d, want)
		mustBe(t, api.OK, v.Save(h, nil))
		has(t, d, lies...)
		opens(t, d, want)
	}
}
