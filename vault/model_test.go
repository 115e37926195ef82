package vault_test

import (
	"maps"
	"math/rand"
	"slices"
	"testing"

	"decamp/api"
	"decamp/disk"
	"decamp/vault"
)

// record is one of a vault's log: an entry, or, where its Index is 0, what is hard.
type record struct {
	h api.Hard
	x api.Entry
}

// kept is what lies on a vault's disk.
type kept struct {
	s api.Snap
	l []record
}

// recordsOf are the records of entries.
func recordsOf(l []api.Entry) []record {
	records := []record{}
	for _, x := range l {
		records = append(records, record{x: x})
	}
	return records
}

// bytes are the log's frames.
func (k kept) bytes() string {
	l := []string{}
	for _, r := range k.l {
		if r.x.Index == 0 {
			l = append(l, hardRec(r.h.Term, int64(r.h.Vote)))
		} else {
			l = append(l, entryRec(r.x))
		}
	}
	return framed(l...)
}

// has is what a vault has of that, as the chapter's words have it, without the program's own code, and what Open makes of it.
func (k kept) has() (state, fate) {
	h, at := unborn, map[int64]api.Entry{}
	for _, r := range k.l {
		x := r.x
		if x.Index == 0 {
			h = r.h
			continue
		}
		if len(at) > 0 && x.Index > slices.Max(slices.Collect(maps.Keys(at)))+1 {
			return state{}, wrong
		}
		maps.DeleteFunc(at, func(index int64, _ api.Entry) bool { return index >= x.Index })
		if ahead, ok := at[x.Index-1]; ok && ahead.Term > x.Term {
			return state{}, wrong
		}
		at[x.Index] = x
	}
	all := slices.Sorted(maps.Keys(at))
	own, goes := at[k.s.Index]
	goes = goes && own.Term == k.s.Term || len(all) > 0 && all[0] == k.s.Index+1
	maps.DeleteFunc(at, func(index int64, _ api.Entry) bool { return index <= k.s.Index || !goes })
	l := []api.Entry{}
	for _, index := range slices.Sorted(maps.Keys(at)) {
		l = append(l, at[index])
	}
	if len(l) > 0 && l[0].Term < k.s.Term {
		return state{}, wrong
	}
	if len(l) < len(all) {
		return state{h, k.s, l}, reset
	}
	return state{h, k.s, l}, stays
}

// after is what lies there when it was opened.
func (k kept) after() kept {
	if has, f := k.has(); f == reset {
		return kept{k.s, append([]record{{h: has.h}}, recordsOf(has.l)...)}
	}
	return k
}

// randomHard is what is hard, and often what it was.
func randomHard(r *rand.Rand) api.Hard {
	return api.Hard{Term: int64(r.Intn(3)), Vote: r.Intn(4) - 1}
}

// randomEntry is an entry of an index near that one.
func randomEntry(r *rand.Rand, near int64, term int64) api.Entry {
	x := one(max(1, near-int64(max(0, r.Intn(12)-8))), term)
	x.Data = append(x.Data, long(r.Intn(4))...)
	return x
}

// randomKept is what may lie on a disk, be it of any use or not.
func randomKept(r *rand.Rand) kept {
	k := kept{}
	if r.Intn(4) > 0 {
		k.s = snapAt(1+int64(r.Intn(5)), 1+int64(r.Intn(3)))
	}
	next, term := 1+int64(r.Intn(6)), 1+int64(r.Intn(2))
	for range r.Intn(9) {
		if r.Intn(4) == 0 {
			k.l = append(k.l, record{h: randomHard(r)})
			continue
		}
		if r.Intn(4) == 0 {
			term++
		}
		if r.Intn(20) == 0 {
			next++
		}
		x := randomEntry(r, next, max(1, term-int64(r.Intn(20)/19)))
		k.l = append(k.l, record{x: x})
		next = x.Index + 1
	}
	return k
}

// P10.1: random snaps and logs.
func TestRandomOpen(t *testing.T) {
	r := rand.New(rand.NewSource(1))
	times := map[fate]int{}
	for range 20000 {
		k := randomKept(r)
		d := newDisk(t, 5000)
		if k.s.Index > 0 {
			lay(t, d, "snap", framedSnap(k.s), "")
		}
		lay(t, d, "wal", k.bytes(), "")
		was := files(t, d)
		want, f := k.has()
		times[f]++
		switch f {
		case wrong:
			refuses(t, d, api.ErrForm)
			has(t, d, was...)
		case stays:
			opens(t, d, want)
			has(t, d, was...)
		case reset:
			opens(t, d, want)
			lies(t, d, k.after())
		}
	}
	if times[wrong] < 1000 || times[stays] < 1000 || times[reset] < 1000 {
		t.Errorf("%v: too few to tell", times)
	}
}

// lies holds that just this lies on a disk, all of it safe.
func lies(t *testing.T, d *disk.Disk, k kept) {
	t.Helper()
	want := []string{}
	if k.s.Index > 0 {
		want = append(want, file("snap", framedSnap(k.s), ""))
	}
	if len(k.l) > 0 {
		want = append(want, file("wal", k.bytes(), ""))
	}
	has(t, d, want...)
}

// tried is a vault that goes through random turns.
type tried struct {
	d *disk.Disk
	v *vault.Vault
	k kept
	// h is what was saved last.
	h api.Hard
	// done, full and lost count calls that answered OK, ErrFull and ErrLost.
	done, full, lost int
}

// useless tells whether an Open of one of these would be refused: nobody saves entries that don't go with those that are there.
func useless(may []kept) bool {
	return slices.ContainsFunc(may, func(k kept) bool {
		_, f := k.has()
		return f == wrong
	})
}

// save does a random Save, and answers its error, and all that may lie there then: the last one, if it is OK.
func (g *tried) save(r *rand.Rand, was state) (api.Errno, []kept) {
	h, l := g.h, []api.Entry{}
	if r.Intn(2) == 0 {
		h = randomHard(r)
	}
	next, term := was.s.Index+int64(len(was.l))+1, max(was.s.Term, 1)
	if n := len(was.l); n > 0 {
		term = was.l[n-1].Term
	}
	for range r.Intn(4) {
		term += int64(r.Intn(2))
		x := randomEntry(r, next, term)
		l = append(l, x)
		next = x.Index + 1
	}
	now, may := g.k, []kept{g.k}
	add := func(more record) {
		now.l = append(slices.Clone(now.l), more)
		may = append(may, now)
	}
	if h != g.h {
		add(record{h: h})
	}
	for _, x := range l {
		add(record{x: x})
	}
	if useless(may) {
		return api.OK, may[:1]
	}
	e := g.v.Save(h, l)
	if e == api.OK {
		g.h = h
	}
	return e, may
}

// keep does a random Keep, likewise.
func (g *tried) keep(r *rand.Rand, was state) (api.Errno, []kept) {
	h, s, l := g.h, was.s, []api.Entry{}
	if r.Intn(2) == 0 {
		h = randomHard(r)
	}
	if n := len(was.l); n > 0 && r.Intn(3) > 0 {
		at := r.Intn(n)
		s = snapAt(was.l[at].Index, was.l[at].Term)
		l = was.l[at+1:]
	} else {
		s = snapAt(was.s.Index+int64(n+1+r.Intn(3)), was.s.Term+int64(n+r.Intn(2))+1)
	}
	now, may := g.k, []kept{g.k}
	if h != g.h {
		now.l = append(slices.Clone(now.l), record{h: h})
		may = append(may, now)
	}
	now.s = s
	may = append(may, now, kept{s, append([]record{{h: h}}, recordsOf(l)...)})
	if useless(may) {
		return api.OK, may[:1]
	}
	e := g.v.Keep(h, s, l)
	if e == api.OK {
		g.h = h
	}
	return e, may
}

// open opens the vault anew, and takes what lies there to be one of these.
func (g *tried) open(t *testing.T, may []kept) {
	t.Helper()
	v, h, s, l, e := vault.Open(g.d)
	if e == api.ErrFull {
		// The log has no room for being written anew beside what it was: with more of it there is.
		g.full++
		g.d = roomier(t, g.d)
		v, h, s, l, e = vault.Open(g.d)
	}
	mustBe(t, api.OK, e)
	got := state{h, s, l}
	n := slices.IndexFunc(may, func(k kept) bool {
		want, f := k.has()
		return f != wrong && got.is(want)
	})
	if n < 0 {
		t.Fatalf("Open: %v", got.text())
	}
	g.v, g.k, g.h = v, may[n].after(), h
}

// turn does a random call, with the power going now and then.
func (g *tried) turn(t *testing.T, r *rand.Rand) {
	t.Helper()
	was, _ := g.k.has()
	if r.Intn(4) == 0 {
		mustBe(t, api.OK, g.d.Fuse(r.Intn(9)))
	}
	do := g.save
	if r.Intn(3) == 0 {
		do = g.keep
	}
	e, may := do(r, was)
	switch e {
	case api.OK:
		g.done++
		g.k = may[len(may)-1]
		if r.Intn(8) == 0 {
			g.d.Restart()
			g.open(t, []kept{g.k})
		}
	case api.ErrFull:
		g.full++
		g.d.Restart()
		g.open(t, may)
	default:
		mustBe(t, api.ErrLost, e)
		g.lost++
		for r.Intn(3) == 0 {
			// The power goes at once again, within Open.
			g.d.Restart(r.Intn(200), r.Intn(200), r.Intn(200))
			mustBe(t, api.OK, g.d.Fuse(r.Intn(4)))
			if v, _, _, _, e := vault.Open(g.d); e != api.OK && v != nil {
				t.Fatal("a vault beside an error")
			}
		}
		g.d.Restart(r.Intn(200), r.Intn(200), r.Intn(200))
		g.open(t, may)
	}
}

// P10.1, P10.2, P10.3: a vault in random turns on a disk of little room, with the power going now and then.
func TestRandomTurns(t *testing.T) {
	done, full, lost := 0, 0, 0
	for seed := range int64(300) {
		r := rand.New(rand.NewSource(seed))
		g := &tried{d: newDisk(t, 400+r.Intn(4000))}
		g.open(t, []kept{{}})
		for range 60 {
			g.turn(t, r)
		}
		g.d.Restart()
		g.open(t, []kept{g.k})
		done, full, lost = done+g.done, full+g.full, lost+g.lost
	}
	if done < 10000 || full < 100 || lost < 1000 {
		t.Errorf("%d times done, %d full, %d lost: too few to tell", done, full, lost)
	}
}
