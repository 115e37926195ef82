package vault_test

import (
	"slices"
	"testing"

	"decamp/api"
	"decamp/disk"
	"decamp/vault"
)

// P10.2, R5: Keep of a snap that isn't right, or zero, of a hard that isn't, and of what isn't a run behind the snap.
func TestKeepWrong(t *testing.T) {
	calls := []func(v *vault.Vault) api.Errno{}
	refuse := func(h api.Hard, s api.Snap, l []api.Entry) {
		calls = append(calls, func(v *vault.Vault) api.Errno { return v.Keep(h, s, l) })
	}
	s := snapAt(4, 2)
	hards := []api.Hard{before.h, {Term: 5, Vote: -1}}
	for _, wrong := range []api.Snap{{}, {Data: []byte("x")}, {Index: 4}, {Term: 2}, {Index: -1, Term: 2}, {Index: 4, Term: -1}, {Index: -1, Term: -1}, {Index: top + 1, Term: 2}, {Index: 4, Term: top + 1}, {Index: 4, Term: 2, Data: long(whole + 1)}, {Index: 1<<63 - 1, Term: 2}, {Index: -1 << 63, Term: -1 << 63}} {
		for _, h := range hards {
			refuse(h, wrong, nil)
			refuse(h, wrong, run(wrong.Index+1, 2))
			refuse(h, wrong, run(1, 1))
		}
	}
	for _, h := range wrongHards() {
		refuse(h, s, nil)
		refuse(h, s, run(5, 2))
	}
	for _, h := range hards {
		for _, l := range [][]api.Entry{run(4, 2), run(6, 2), run(3, 2, 2, 2), run(5, 1), run(5, 1, 2), run(5, 3, 2), append(run(5, 2), run(7, 2)...), append(run(5, 2), run(5, 2)...), run(1, 1), append(run(5, 2), run(4, 2)...)} {
			refuse(h, s, l)
		}
		for _, x := range wrongEntries() {
			refuse(h, s, []api.Entry{x})
			refuse(h, s, append(run(5, 2), x))
		}
		refuse(h, s, []api.Entry{{Index: 5, Term: 2, Data: long(most + 1)}})
		refuse(h, s, append(run(5, 2), api.Entry{Index: 6, Term: top + 1}))
		refuse(h, snapAt(top, 2), run(top+1, 2))
	}
	refusedCalls(t, calls...)
}

// P10.2: what is right to its edges is kept.
func TestKeepEdges(t *testing.T) {
	for _, h := range []api.Hard{unborn, {Term: 0, Vote: 0}, {Term: top, Vote: 2}} {
		for _, c := range []state{
			{h, api.Snap{Index: 1, Term: 1}, nil},
			{h, api.Snap{Index: top, Term: top, Data: long(whole)}, nil},
			{h, api.Snap{Index: top - 1, Term: top, Data: []byte{0}}, run(top, top)},
			{h, api.Snap{Index: 5, Term: 2}, []api.Entry{{Index: 6, Term: 2, Data: long(most)}, {Index: 7, Term: top}}},
		} {
			d := newDisk(t, api.MaxRoom)
			mustBe(t, api.OK, opens(t, d, state{h: unborn}).Keep(c.h, c.s, c.l))
			opens(t, d, c)
			has(t, d, file("snap", framedSnap(c.s), ""), file("wal", framed(recs(c.h, c.l...)...), ""))
		}
	}
}

// keepCalls are Keeps to a vault that has that: of what is hard as it is, or not, with entries and without.
func keepCalls(was state) []call {
	l := []call{}
	for _, h := range []api.Hard{was.h, {Term: 6, Vote: -1}, unborn} {
		for _, c := range []state{
			{s: snapAt(3, 1)},
			{s: snapAt(4, 2), l: run(5, 2)},
			{s: snapAt(4, 2), l: run(5, 4, 5)},
			{s: snapAt(5, 2)},
			{s: snapAt(5, 2), l: run(6, 2, 2, 2)},
			{s: snapAt(4, 3), l: run(5, 3)},
			{s: snapAt(9, 4), l: run(10, 4)},
			{s: snapAt(2, 1)},
		} {
			l = append(l, keepCall(was, h, c.s, c.l))
		}
	}
	return l
}

// leftOver are what an earlier call may have left in the files that are written anew: safe bytes, and such as wait.
func leftOver() [][2]string {
	return [][2]string{{"", ""}, {"12", ""}, {"", "34"}, {"5", "67"}, {framedSnap(snapAt(7, 2)), ""}}
}

// starts are disks whose vaults have that, with all kinds of what else may lie there.
func starts(t *testing.T, has state) []*disk.Disk {
	t.Helper()
	l := []*disk.Disk{}
	for _, snap := range leftOver() {
		for _, wal := range leftOver() {
			d := laid(t, 2000, has)
			lay(t, d, "snap+", snap[0], snap[1])
			lay(t, d, "wal+", wal[0], wal[1])
			l = append(l, d)
		}
	}
	return l
}

// P10.2: a Keep does its deeds in their order; the first error is answered, and nothing is done behind it.
func TestKeep(t *testing.T) {
	for _, was := range []state{before, {h: unborn}, {h: before.h, l: run(1, 1, 1, 1, 2)}} {
		for _, d := range starts(t, was) {
			names := d.Names()
			for _, c := range keepCalls(was) {
				// Append, Sync and Rename of the snap, and as many of the log.
				want := 6
				if len(c.deeds) > 8 {
					// And Append and Sync of what is hard, ahead of them.
					want = 8
				}
				for _, name := range []string{"snap+", "wal+"} {
					if slices.Contains(names, name) {
						want++
					}
				}
				if n := c.does(t, d, was); n != want {
					t.Fatalf("%d deeds, want %d", n, want)
				}
				d := d.Clone()
				v := opens(t, d, was)
				mustBe(t, api.OK, c.do(v))
				lies := []string{file("snap", framedSnap(c.done.s), ""), file("wal", framed(recs(c.done.h, c.done.l...)...), "")}
				has(t, d, lies...)
				// Its hard is what was saved last.
				mustBe(t, api.OK, v.Save(c.done.h, nil))
				has(t, d, lies...)
				takes(t, d, 0, func(d *disk.Disk) { opens(t, d, c.done) })
			}
		}
	}
}

// P10.2: of a lost disk a Keep answers that, and nothing is changed.
func TestKeepOnLost(t *testing.T) {
	for _, d := range starts(t, before) {
		v := opens(t, d, before)
		lose(t, d)
		was := files(t, d)
		for _, c := range keepCalls(before) {
			mustBe(t, api.ErrLost, c.do(v))
		}
		has(t, d, was...)
	}
}

// roomier is a disk of more room, with all that lies on that one.
func roomier(t *testing.T, d *disk.Disk) *disk.Disk {
	t.Helper()
	more := newDisk(t, api.MaxRoom)
	for _, name := range d.Names() {
		b, e := d.Read(name)
		mustBe(t, api.OK, e)
		n := d.Safe(name)
		lay(t, more, name, string(b[:n]), string(b[n:]))
	}
	return more
}

// P10.2: where there is no room for what is hard, for the snap, or for the log, nothing is done from there on; what was done ahead of it stays.
func TestKeepFull(t *testing.T) {
	used := laid(t, api.MaxRoom, before).Used()
	great := snapAt(5, 2)
	great.Data = long(200)
	for _, h := range []api.Hard{before.h, {Term: 6, Vote: -1}} {
		for _, c := range []call{
			keepCall(before, h, snapAt(4, 2), run(5, 2, 2, 2)),
			keepCall(before, h, snapAt(9, 4), run(10, 4)),
			// The log has room where the snap has none, if it is tried.
			keepCall(before, h, great, nil),
			keepCall(before, h, great, run(6, 2)),
		} {
			fails := 0
			for left := 0; ; left++ {
				d := laid(t, used+left, before)
				c.does(t, d, before)
				v := opens(t, d, before)
				if c.do(v) == api.OK {
					opens(t, d, c.done)
					break
				}
				fails++
				c.fellShort(t, d, v)
			}
			if fails < 50 {
				t.Errorf("room within %d bytes", fails)
			}
		}
	}
}

// fellShort holds what the vault of a disk on which there was no room for a Keep has, and what it saved last.
func (c call) fellShort(t *testing.T, d *disk.Disk, v *vault.Vault) {
	t.Helper()
	was := files(t, d)
	want := c.may[0]
	if slices.Contains(was, file("snap", framedSnap(c.done.s), "")) {
		want = c.may[2]
	} else if !slices.Contains(was, file("wal", framed(recs(want.h, want.l...)...), "")) {
		want = c.may[1]
	}
	opens(t, roomier(t, d), want)
	mustBe(t, api.OK, v.Save(want.h, nil))
	has(t, d, was...)
}

// P10.1: a Reset within Open: its deeds in their order, and its first error; what it leaves is opened again.
func TestOpenResets(t *testing.T) {
	h := api.Hard{Term: 6, Vote: 0}
	told := slices.Concat(recs(before.h, run(1, 1, 1, 1, 2)...), recs(h, run(5, 2, 3)...))
	for _, s := range []api.Snap{snapAt(3, 1), snapAt(5, 2), snapAt(6, 3), snapAt(5, 3), snapAt(9, 4)} {
		want := state{h: h, s: s, l: above(state{l: run(1, 1, 1, 1, 2, 2, 3)}, s)}
		deeds := resets(recs(h, want.l...)...)
		need := len(framed(recs(h, want.l...)...))
		for _, left := range leftOver() {
			for _, room := range []int{0, 1, need - len(left[0]+left[1]) - 1, need - len(left[0]+left[1]), 1000} {
				if room < 0 {
					continue
				}
				d := newDisk(t, len(framedSnap(s))+len(framed(told...))+len(left[0]+left[1])+room)
				lay(t, d, "snap", framedSnap(s), "")
				lay(t, d, "wal", framed(told...), "")
				lay(t, d, "wal+", left[0], left[1])
				resetsAlike(t, d, deeds, want)
			}
		}
	}
}

// resetsAlike holds that Open does just these deeds, wherever the power goes, and has that then.
func resetsAlike(t *testing.T, d *disk.Disk, deeds []deed, want state) {
	t.Helper()
	for fuse := 0; ; fuse++ {
		plain, got := d.Clone(), d.Clone()
		mustBe(t, api.OK, plain.Fuse(fuse))
		mustBe(t, api.OK, got.Fuse(fuse))
		e := follow(plain, deeds)
		if e == api.OK {
			opens(t, got, want)
		} else {
			refuses(t, got, e)
		}
		has(t, got, files(t, plain)...)
		if !plain.Lost() {
			mustBe(t, api.ErrLost, got.Append("~", nil))
			return
		}
		for keep := range 30 {
			again := got.Clone()
			again.Restart(keep, keep)
			if e := follow(again.Clone(), deeds); e != api.OK {
				refuses(t, again, e)
			} else {
				opens(t, again, want)
			}
		}
	}
}
