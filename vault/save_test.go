package vault_test

import (
	"slices"
	"testing"

	"decamp/api"
	"decamp/disk"
	"decamp/vault"
)

// wrongHards aren't right.
func wrongHards() []api.Hard {
	return []api.Hard{{Term: -1, Vote: 0}, {Term: top + 1, Vote: 0}, {Term: 1, Vote: -2}, {Term: 1, Vote: 3}, {Term: -1 << 63, Vote: -1}, {Term: 1<<63 - 1, Vote: 2}, {Term: -1, Vote: -2}, {Term: 2, Vote: 1 << 32}}
}

// wrongEntries aren't right.
func wrongEntries() []api.Entry {
	return []api.Entry{{}, {Index: 0, Term: 1}, {Index: 4, Term: 0}, {Index: -1, Term: 1}, {Index: 4, Term: -1}, {Index: top + 1, Term: 2}, {Index: 4, Term: top + 1}, {Index: 4, Term: 2, Data: long(most + 1)}, {Index: 1<<63 - 1, Term: 2}, {Index: -1 << 63, Term: 2}}
}

// before is what the vaults have to which the calls of these tests are done.
var before = state{h: api.Hard{Term: 3, Vote: 1}, s: snapAt(3, 1), l: run(4, 2, 2)}

// laid is a disk on which that lies.
func laid(t *testing.T, room int, has state) *disk.Disk {
	t.Helper()
	d := newDisk(t, room)
	if has.s.Index > 0 {
		lay(t, d, "snap", framedSnap(has.s), "")
	}
	lay(t, d, "wal", framed(recs(has.h, has.l...)...), "")
	return d
}

// refusedCalls holds that each of the calls answers ErrArg and does nothing, on a disk that is lost, and on one that isn't.
func refusedCalls(t *testing.T, calls ...func(v *vault.Vault) api.Errno) {
	t.Helper()
	d := laid(t, api.MaxRoom, before)
	v := opens(t, d, before)
	was := files(t, d)
	mustBe(t, api.OK, d.Fuse(0))
	for range 2 {
		for _, do := range calls {
			mustBe(t, api.ErrArg, do(v))
		}
		// The fuse is as it was: nothing was asked of the disk. The second time round it is lost.
		has(t, d, was...)
		if !d.Lost() {
			mustBe(t, api.ErrLost, d.Append("~", nil))
		}
	}
	d.Restart()
	// What was saved last is what it was.
	mustBe(t, api.OK, v.Save(before.h, nil))
	has(t, d, was...)
	opens(t, d, before)
}

// P10.2, R5: Save of what isn't right, wherever it stands.
func TestSaveWrong(t *testing.T) {
	calls := []func(v *vault.Vault) api.Errno{}
	refuse := func(h api.Hard, l []api.Entry) {
		calls = append(calls, func(v *vault.Vault) api.Errno { return v.Save(h, l) })
	}
	for _, h := range wrongHards() {
		refuse(h, nil)
		refuse(h, run(6, 2))
		refuse(h, []api.Entry{{}})
	}
	for _, x := range wrongEntries() {
		for _, h := range []api.Hard{before.h, {Term: 5, Vote: -1}} {
			refuse(h, []api.Entry{x})
			refuse(h, append(run(6, 2, 2), x))
			refuse(h, append([]api.Entry{x}, run(6, 2)...))
			refuse(h, slices.Concat(run(6, 2), []api.Entry{x}, run(7, 2)))
		}
	}
	refusedCalls(t, calls...)
}

// P10.2: what is right to its edges is saved.
func TestSaveEdges(t *testing.T) {
	l := []api.Entry{{Index: 1, Term: 1, Data: long(most)}, {Index: 2, Term: top}, {Index: 3, Term: top, Data: []byte{0}}}
	for _, h := range []api.Hard{{Term: 0, Vote: 0}, {Term: 0, Vote: 2}, {Term: top, Vote: -1}, {Term: top, Vote: 2}} {
		d := newDisk(t, api.MaxRoom)
		mustBe(t, api.OK, opens(t, d, state{h: unborn}).Save(h, l))
		opens(t, d, state{h: h, l: l})
	}
	d := newDisk(t, api.MaxRoom)
	s := api.Snap{Index: top - 1, Term: 1}
	lay(t, d, "snap", framedSnap(s), "")
	mustBe(t, api.OK, opens(t, d, state{h: unborn, s: s}).Save(unborn, run(top, 1)))
	opens(t, d, state{h: unborn, s: s, l: run(top, 1)})
}

// P10.2: each Save is one Add of the records that are told, in their order, and nothing else, and it is there when the vault is opened again.
func TestSave(t *testing.T) {
	h, other := before.h, api.Hard{Term: 4, Vote: 1}
	for _, room := range []int{0, 200} {
		for _, h := range []api.Hard{h, other, {Term: 3, Vote: 0}, {Term: 4, Vote: -1}, unborn} {
			for _, l := range [][]api.Entry{nil, {}, run(6, 2), run(6, 2, 3, 3), run(5, 3), run(5, 2), run(4, 3, 4, 5), run(5, 2, 2, 2, 2), slices.Concat(run(6, 2), run(6, 3), run(5, 4)), {{Index: 6, Term: 9}}} {
				d := laid(t, api.MaxRoom-room, before)
				c := saveCall(before, h, l)
				if n, want := c.does(t, d, before), len(c.deeds); n != want {
					t.Fatalf("%d deeds, want %d", n, want)
				}
				mustBe(t, api.OK, c.do(opens(t, d, before)))
				opens(t, d, c.done)
			}
		}
	}
}

// P10.2: what is hard is written only where it isn't what was saved last, be it by a call, or ahead of the opening.
func TestSaveSameHard(t *testing.T) {
	a, b := api.Hard{Term: 1, Vote: 0}, api.Hard{Term: 1, Vote: 1}
	d := newDisk(t, 10000)
	v := opens(t, d, state{h: unborn})
	want := []string{}
	save := func(h api.Hard, l []api.Entry, records ...string) {
		t.Helper()
		mustBe(t, api.OK, v.Save(h, l))
		want = append(want, records...)
		if len(want) > 0 {
			has(t, d, file("wal", framed(want...), ""))
		} else {
			has(t, d)
		}
	}
	hard := func(h api.Hard) string { return hardRec(h.Term, int64(h.Vote)) }
	// Nothing was saved, and this is what it has.
	save(unborn, nil)
	save(unborn, run(1, 1), entryRec(one(1, 1)))
	save(a, nil, hard(a))
	save(a, nil)
	save(a, run(2, 1), entryRec(one(2, 1)))
	save(b, run(3, 1), hard(b), entryRec(one(3, 1)))
	save(b, nil)
	save(a, nil, hard(a))
	save(unborn, nil, hard(unborn))
	save(unborn, nil)
	save(b, nil, hard(b))
	v = opens(t, d, state{h: b, l: run(1, 1, 1, 1)})
	save(b, nil)
	save(b, run(4, 1), entryRec(one(4, 1)))
	save(a, run(5, 1), hard(a), entryRec(one(5, 1)))
	v = opens(t, d, state{h: a, l: run(1, 1, 1, 1, 1, 1)})
	save(a, nil)
	save(b, nil, hard(b))
}

// P10.2: where there is nothing to write, Save is OK of whatever disk.
func TestSaveNothing(t *testing.T) {
	d := laid(t, 500, before)
	v := opens(t, d, before)
	was := files(t, d)
	lose(t, d)
	mustBe(t, api.OK, v.Save(before.h, nil))
	mustBe(t, api.OK, v.Save(before.h, []api.Entry{}))
	has(t, d, was...)
	mustBe(t, api.ErrLost, v.Save(before.h, run(6, 2)))
	mustBe(t, api.ErrLost, v.Save(api.Hard{Term: 4, Vote: 1}, nil))
	mustBe(t, api.ErrLost, v.Save(api.Hard{Term: 4, Vote: 1}, run(6, 2)))
	has(t, d, was...)
}

// P10.2: what there is no room for isn't saved, none of it, and what was saved last is as it was.
func TestSaveFull(t *testing.T) {
	other := api.Hard{Term: 4, Vote: 0}
	for _, h := range []api.Hard{before.h, other} {
		for _, l := range [][]api.Entry{nil, run(6, 2), run(5, 3, 3)} {
			c := saveCall(before, h, l)
			used := laid(t, api.MaxRoom, before).Used()
			need := 0
			if h != before.h {
				need = len(framed(hardRec(h.Term, int64(h.Vote))))
			}
			need += len(framed(recsOf(l...)...))
			for left := range need + 2 {
				d := laid(t, used+left, before)
				was := files(t, d)
				c.does(t, d, before)
				v := opens(t, d, before)
				if left >= need {
					mustBe(t, api.OK, c.do(v))
					opens(t, d, c.done)
					continue
				}
				mustBe(t, api.ErrFull, c.do(v))
				has(t, d, was...)
				opens(t, d, before)
				mustBe(t, api.OK, v.Save(before.h, nil))
				has(t, d, was...)
				if hard := framed(hardRec(other.Term, int64(other.Vote))); left >= len(hard) {
					mustBe(t, api.OK, v.Save(other, nil))
					opens(t, d, state{other, before.s, before.l})
				}
			}
		}
	}
}

// P10.2: what is hard isn't saved by a Save that the power cut short, and is written by the next one.
func TestSaveLost(t *testing.T) {
	h := api.Hard{Term: 4, Vote: 0}
	for fuse := range 2 {
		d := laid(t, 1000, before)
		v := opens(t, d, before)
		mustBe(t, api.OK, d.Fuse(fuse))
		mustBe(t, api.ErrLost, v.Save(h, run(6, 3)))
		mustBe(t, api.ErrLost, v.Save(h, nil))
		refuses(t, d, api.ErrLost)
		d.Restart()
		mustBe(t, api.OK, v.Save(h, run(6, 4)))
		opens(t, d, state{h, before.s, append(slices.Clone(before.l), one(6, 4))})
	}
}
