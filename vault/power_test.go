package vault_test

import (
	"slices"
	"testing"

	"decamp/api"
	"decamp/disk"
	"decamp/vault"
)

// restarts are disks as d, which is lost, may be when the power comes back: with every number of bytes kept of each file that has such as wait.
func restarts(t *testing.T, d *disk.Disk) []*disk.Disk {
	t.Helper()
	whole := d.Clone()
	whole.Restart(slices.Repeat([]int{-1}, len(d.Names()))...)
	numbers := [][]int{{}}
	for _, name := range d.Names() {
		b, e := whole.Read(name)
		mustBe(t, api.OK, e)
		waits := len(b) - d.Safe(name)
		if waits == 0 {
			continue
		}
		more := [][]int{}
		for _, l := range numbers {
			for n := range waits + 1 {
				more = append(more, append(slices.Clone(l), n))
			}
		}
		numbers = more
	}
	l := []*disk.Disk{}
	for _, keep := range numbers {
		c := d.Clone()
		c.Restart(keep...)
		l = append(l, c)
	}
	return l
}

// opensTo opens a vault, and holds that it has one of these; it answers which.
func opensTo(t *testing.T, d *disk.Disk, may ...state) (*vault.Vault, state) {
	t.Helper()
	v, h, s, l, e := vault.Open(d)
	got := state{h, s, l}
	if v == nil || e != api.OK || !slices.ContainsFunc(may, got.is) {
		t.Fatalf("Open: %v, %v, %v", v != nil, got.text(), e)
	}
	return v, got
}

// goesOn holds that a vault that was opened behind a crash, and has that, is none the worse for it.
func goesOn(t *testing.T, d *disk.Disk, v *vault.Vault, has state) {
	t.Helper()
	last := has.s.Index + int64(len(has.l))
	c := saveCall(has, api.Hard{Term: 7, Vote: 2}, run(last+1, 7))
	mustBe(t, api.OK, c.do(v))
	// All of it is safe: a power that goes now takes nothing away.
	d.Restart()
	v = opens(t, d, c.done)
	c = keepCall(c.done, api.Hard{Term: 8, Vote: -1}, snapAt(last+1, 7), run(last+2, 8))
	mustBe(t, api.OK, c.do(v))
	d.Restart()
	v = opens(t, d, c.done)
	if !slices.Equal(d.Names(), []string{"snap", "wal"}) {
		t.Fatalf("files are left over: %q", d.Names())
	}
	c = saveCall(c.done, c.done.h, run(last+2, 8, 8))
	mustBe(t, api.OK, c.do(v))
	d.Restart()
	opens(t, d, c.done)
}

// loses holds what a vault has when the power goes at each deed of a call to one that has that, with every number of bytes kept.
// It answers how often each of what it may have was found.
func (c call) loses(t *testing.T, d *disk.Disk, has state) []int {
	t.Helper()
	found := make([]int, len(c.may))
	for fuse := 0; ; fuse++ {
		got := d.Clone()
		v := opens(t, got, has)
		mustBe(t, api.OK, got.Fuse(fuse))
		if c.do(v) == api.OK {
			if len(c.deeds) > 0 && fuse == 0 {
				t.Fatal("done without power")
			}
			got.Restart()
			goesOn(t, got, opens(t, got, c.done), c.done)
			return found
		}
		for _, again := range restarts(t, got) {
			v, now := opensTo(t, again, c.may...)
			found[slices.IndexFunc(c.may, now.is)]++
			goesOn(t, again, v, now)
		}
	}
}

// P10.3: the power goes at each deed of a Save: what is hard, and the first entries, are there perhaps, and all that was.
func TestSaveLoses(t *testing.T) {
	for _, was := range []state{before, {h: unborn}, {h: before.h, l: run(1, 1, 1, 1, 2)}} {
		last := was.s.Index + int64(len(was.l))
		for _, h := range []api.Hard{was.h, {Term: 6, Vote: 0}} {
			for _, l := range [][]api.Entry{nil, run(last+1, 3), run(last+1, 3, 3, 4), run(was.s.Index+1, 5, 5, 6)} {
				c := saveCall(was, h, l)
				for n, times := range c.loses(t, laid(t, 2000, was), was) {
					// What is hard as it was tells nothing, and without a deed no power goes.
					if same := c.may[n].is(was) && n > 0; times == 0 && !same && len(c.deeds) > 0 {
						t.Errorf("never %v", c.may[n].text())
					}
				}
			}
		}
	}
}

// P10.3: the power goes at each deed of a Keep: what is hard, or that and the snap, with the entries above it that go with it, are there perhaps.
func TestKeepLoses(t *testing.T) {
	for _, was := range []state{before, {h: unborn}, {h: before.h, l: run(1, 1, 1, 1, 2)}} {
		for _, c := range keepCalls(was) {
			t.Run(was.text()+"; "+c.done.text(), func(t *testing.T) {
				t.Parallel()
				c.keepLoses(t, was)
			})
		}
	}
}

// keepLoses holds it of one Keep, to a vault that has that.
func (c call) keepLoses(t *testing.T, was state) {
	t.Helper()
	for n, d := range starts(t, was) {
		if n%6 > 0 {
			// These have each kind of either file.
			continue
		}
		found := c.loses(t, d, was)
		if found[0] == 0 || found[2] == 0 && !c.may[2].is(c.may[1]) {
			t.Errorf("%v: %d", c.may[2].text(), found)
		}
	}
}

// P10.3: the power goes at each deed of an Open, at the cutting of what an Add left, too.
func TestOpenLoses(t *testing.T) {
	h := api.Hard{Term: 6, Vote: 0}
	told := slices.Concat(recs(before.h, run(1, 1, 1, 1, 2)...), recs(h, run(5, 2, 3)...))
	torn := framed(recs(api.Hard{Term: 9, Vote: 1})...)
	for _, s := range []api.Snap{{}, snapAt(3, 1), snapAt(5, 2), snapAt(6, 3), snapAt(5, 3), snapAt(9, 4)} {
		want := state{h: h, s: s, l: above(state{l: run(1, 1, 1, 1, 2, 2, 3)}, s)}
		for _, left := range leftOver() {
			for behind := range len(torn) {
				d := newDisk(t, 2000)
				if s.Index > 0 {
					lay(t, d, "snap", framedSnap(s), "")
				}
				lay(t, d, "wal", framed(told...), torn[:behind])
				lay(t, d, "wal+", left[0], left[1])
				openLoses(t, d, want)
			}
		}
	}
}

// openLoses holds that a vault has that, wherever the power goes while it is opened.
func openLoses(t *testing.T, d *disk.Disk, want state) {
	t.Helper()
	for fuse := 0; ; fuse++ {
		got := d.Clone()
		mustBe(t, api.OK, got.Fuse(fuse))
		v, h, s, l, e := vault.Open(got)
		if e == api.OK {
			if v == nil || !(state{h, s, l}).is(want) {
				t.Fatalf("%v, want %v", state{h, s, l}.text(), want.text())
			}
			return
		}
		mustBe(t, api.ErrLost, e)
		refuses(t, got, api.ErrLost)
		// Of all numbers of bytes a few will do here: each disk has its own of them.
		for _, keep := range [][]int{{}, {-1, -1}, {0, -1}, {-1, 0}, {13, 31}, {31, 13}, {50, 50}} {
			again := got.Clone()
			again.Restart(keep...)
			goesOn(t, again, opens(t, again, want), want)
		}
	}
}

// P10.3: calls whose power goes, one behind the other, each at another deed, with the vault opened in between; and in the end one whose power doesn't.
func TestLosesAgain(t *testing.T) {
	for first := range 11 {
		for second := range 11 {
			for third := range 11 {
				d, was := laid(t, 2000, before), before
				for n, fuse := range []int{first, second, third, 99} {
					v := opens(t, d, was)
					h, last, term := api.Hard{Term: int64(5 + n), Vote: n % 3}, was.s.Index, was.s.Term
					for _, x := range was.l {
						last, term = x.Index, x.Term
					}
					c := keepCall(was, h, snapAt(last, term), run(last+1, term))
					if n%2 == 1 {
						c = saveCall(was, h, run(last+1, term, term+1))
					}
					mustBe(t, api.OK, d.Fuse(fuse))
					may := c.may
					if e := c.do(v); e == api.OK {
						may = []state{c.done}
					}
					d.Restart(7*n*fuse, 5*n+fuse)
					_, was = opensTo(t, d, may...)
				}
				goesOn(t, d, opens(t, d, was), was)
			}
		}
	}
}
