package member_test

import (
	"math"
	"testing"

	"decamp/api"
	"decamp/disk"
	"decamp/member"
	"decamp/raft"
	"decamp/vault"
)

// lay lets a file of a disk have these bytes behind its others; the last ones wait.
func lay(t *testing.T, d *disk.Disk, name, bytes, waiting string) {
	t.Helper()
	mustBe(t, api.OK, d.Append(name, []byte(bytes)))
	if bytes != "" {
		mustBe(t, api.OK, d.Sync(name))
	}
	mustBe(t, api.OK, d.Append(name, []byte(waiting)))
}

// refuses holds that there is no member, and why.
func refuses(t *testing.T, id, n int, d *disk.Disk, want api.Errno) {
	t.Helper()
	m, s, e := member.Open(id, n, d)
	if m != nil {
		t.Errorf("a member beside %v", e)
	}
	alike(t, []any{api.Snap{}, want}, []any{s, e})
}

// P13.1, Open: of a nil disk, whatever the numbers.
func TestOpenNil(t *testing.T) {
	refuses(t, 0, 1, nil, api.ErrArg)
	refuses(t, 7, 7, nil, api.ErrArg)
}

// wrongNumbers are an id and an n that can't be.
func wrongNumbers() [][2]int {
	return [][2]int{{0, 0}, {0, -1}, {0, 4}, {0, math.MaxInt}, {0, math.MinInt}, {1, 1}, {2, 2}, {3, 3}, {-1, 3}, {math.MinInt, 3}, {math.MaxInt, 3}, {3, 4}}
}

// P13.1, Open: of an id and an n that can't be layer 12's error, and nothing on the disk is changed.
func TestOpenNumbers(t *testing.T) {
	for _, k := range []kept{{h: unborn}, before()} {
		d := laid(t, api.MaxRoom, k)
		was := files(t, d)
		for _, c := range wrongNumbers() {
			refuses(t, c[0], c[1], d, api.ErrArg)
		}
		alike(t, was, files(t, d))
		for n := 1; n <= 3; n++ {
			for id := range n {
				opens(t, id, n, d)
			}
		}
		alike(t, was, files(t, d))
	}
}

// P13.1, Open, R6: layer 10's errors, ahead of layer 12's.
func TestOpenVaultErrors(t *testing.T) {
	lost := laid(t, api.MaxRoom, before())
	lose(t, lost)
	snapless := laid(t, api.MaxRoom, before())
	lay(t, snapless, "snap", "", "x")
	strange := newDisk(t, 1000)
	lay(t, strange, "wal", "\x00\x00\x00\x00\x21\x44\xdf\x1c", "")
	gap := laid(t, api.MaxRoom, kept{h: api.Hard{Term: 4, Vote: -1}, l: run(0, 1, 2)})
	v, _, _, _, e := vault.Open(gap)
	mustBe(t, api.OK, e)
	mustBe(t, api.OK, v.Save(api.Hard{Term: 4, Vote: -1}, run(5, 3)))
	for name, c := range map[string]struct {
		d    *disk.Disk
		want api.Errno
	}{
		"a lost disk":                                          {lost, api.ErrLost},
		"more behind the snap":                                 {snapless, api.ErrForm},
		"a record that no vault wrote":                         {strange, api.ErrForm},
		"entries with a gap":                                   {gap, api.ErrForm},
		"a torn record, and no power to cut":                   {torn(t, 0), api.ErrLost},
		"a snap ahead of its log, and no room for another log": {ahead(t, 0), api.ErrFull},
	} {
		t.Run(name, func(t *testing.T) {
			for _, numbers := range append(wrongNumbers(), [2]int{0, 3}) {
				refuses(t, numbers[0], numbers[1], c.d.Clone(), c.want)
			}
		})
	}
}

// torn is a disk on which a record was cut short, whose power goes behind so many deeds.
func torn(t *testing.T, fuse int) *disk.Disk {
	t.Helper()
	d := laid(t, api.MaxRoom, before())
	lay(t, d, "wal", "torn", "")
	mustBe(t, api.OK, d.Fuse(fuse))
	return d
}

// ahead is a disk on which the snap was kept, and not the log behind it, and so much room is left.
func ahead(t *testing.T, room int) *disk.Disk {
	t.Helper()
	k := before()
	other := laid(t, api.MaxRoom, kept{h: k.h, s: snap(3, 3)})
	from := laid(t, api.MaxRoom, kept{h: k.h, l: run(0, 1, 2, 3, 4)})
	frame, e := other.Read("snap")
	mustBe(t, api.OK, e)
	log, e := from.Read("wal")
	mustBe(t, api.OK, e)
	d := newDisk(t, len(frame)+len(log)+room)
	lay(t, d, "snap", string(frame), "")
	lay(t, d, "wal", string(log), "")
	return d
}

// P13.1, Open: what an Open that the power cut short left over is mended, as layer 10 has it.
func TestOpenMends(t *testing.T) {
	d := torn(t, 1)
	alike(t, int64(4), opens(t, 0, 3, d).State().Last)
	keeps(t, d, before())

	d = ahead(t, 1000)
	m, s, e := member.Open(0, 3, d)
	mustBe(t, api.OK, e)
	alike(t, snap(3, 3), s)
	alike(t, []int64{3, 3, 3, 4}, []int64{m.Applied(), m.State().Base, m.State().Commit, m.State().Last})
	keeps(t, d, kept{before().h, snap(3, 3), run(3, 4)})
}

// P13.1, Open: what a vault has, and can't be a node's: a Term below its snap's, or its entries'.
func TestOpenTerms(t *testing.T) {
	for _, c := range []struct {
		k    kept
		want api.Errno
	}{
		{kept{h: api.Hard{Term: 2, Vote: -1}, l: run(0, 1, 2)}, api.OK},
		{kept{h: api.Hard{Term: 1, Vote: -1}, l: run(0, 1, 2)}, api.ErrArg},
		{kept{h: unborn, l: run(0, 1)}, api.ErrArg},
		{kept{h: api.Hard{Term: 2, Vote: 1}, s: snap(5, 2)}, api.OK},
		{kept{h: api.Hard{Term: 1, Vote: 1}, s: snap(5, 2)}, api.ErrArg},
		{kept{h: api.Hard{Term: 2, Vote: 1}, s: snap(5, 2), l: run(5, 3)}, api.ErrArg},
	} {
		d := laid(t, api.MaxRoom, c.k)
		_, _, e := member.Open(1, 3, d)
		mustBe(t, c.want, e)
		keeps(t, d, c.k)
	}
}

// P13.1, Open: the node is as layer 12's New makes it of what the disk has; the snap is answered, and applied; nothing is told ahead of being committed.
func TestOpen(t *testing.T) {
	for _, k := range []kept{
		{h: unborn},
		{h: api.Hard{Term: 3, Vote: 0}},
		{h: api.Hard{Term: 3, Vote: -1}, l: run(0, 1, 2, 3)},
		{h: api.Hard{Term: 3, Vote: 2}, s: snap(7, 3)},
		{h: api.Hard{Term: 9, Vote: 1}, s: snap(7, 3), l: run(7, 3, 4)},
		{h: api.Hard{Term: top, Vote: 1}, s: api.Snap{Index: top, Term: top, Data: make([]byte, whole)}},
	} {
		for n := 1; n <= 3; n++ {
			for id := range n {
				d := laid(t, api.MaxRoom, k)
				was := files(t, d)
				m, s, e := member.Open(id, n, d)
				mustBe(t, api.OK, e)
				alike(t, k.s, s)
				none := make([]int64, n)
				last := k.s.Index + int64(len(k.l))
				alike(t, raft.State{Lead: -1, Hard: k.h, Commit: k.s.Index, Base: k.s.Index, Last: last, Next: none, Match: none}, m.State())
				alike(t, []any{k.s.Index, false}, []any{m.Applied(), m.Gone()})
				alike(t, member.Out{}, ticks(t, m, 1))
				alike(t, was, files(t, d))
			}
		}
	}
}

// P13.1, Open: the entries that were kept are told when they are committed, the snap isn't told anew; all is from the snap on.
func TestOpenApplies(t *testing.T) {
	m, d := begins(t, 0, 1, before())
	own := entry(5, 5, "")
	alike(t, member.Out{Entries: append(run(2, 3, 4), own)}, ticks(t, m, patience))
	alike(t, int64(5), m.Applied())
	keeps(t, d, kept{api.Hard{Term: 5}, snap(2, 2), append(run(2, 3, 4), own)})
	// Opened again, it tells them again: what is applied isn't kept.
	m, s, e := member.Open(0, 1, d)
	mustBe(t, api.OK, e)
	alike(t, snap(2, 2), s)
	alike(t, int64(2), m.Applied())
	alike(t, member.Out{Entries: append(run(2, 3, 4), own, entry(6, 6, ""))}, ticks(t, m, patience))
}
