package index_test

import (
	"fmt"
	"math"
	"math/rand"
	"slices"
	"strings"
	"testing"

	"decamp/api"
	"decamp/hist"
	"decamp/index"
)

// modelText tells whether a text has 1 to 32 bytes, each from 33 to most.
func modelText(s string, most int) bool {
	b := []byte(s)
	return len(b) != 0 && len(b) < 33 && int(slices.Min(b)) > 32 && int(slices.Max(b)) <= most
}

func modelKey(s string) bool { return modelText(s, 126) }

func modelRange(from, end string) bool {
	switch {
	case !modelKey(from):
		return false
	case end == "":
		return true
	}
	return modelText(end, 127) && strings.Compare(end, from) == 1
}

func modelIn(from, end, key string) bool {
	switch {
	case !modelRange(from, end), !modelKey(key):
		return false
	case end == "":
		return key == from
	}
	return strings.Compare(key, from) != -1 && strings.Compare(key, end) == -1
}

// model is what an Index should hold: of each key what it was. It stays as it is: a changed one is another one.
type model map[string][]api.Ver

// sorted are the keys of a map, rising.
func sorted[V any](m map[string]V) []string {
	l := []string{}
	for k := range m {
		l = append(l, k)
	}
	slices.Sort(l)
	return l
}

// set is the model in which key was h; if that is none, it isn't there.
func (m model) set(key string, h []api.Ver) model {
	n := model{}
	for k, v := range m {
		n[k] = v
	}
	n[key] = h
	if len(h) == 0 {
		delete(n, key)
	}
	return n
}

func (m model) put(key string, rev, mod int64, value string, lease int64) (model, api.Errno) {
	h, e := hist.Put(m[key], rev, mod, value, lease)
	if !modelKey(key) || e != api.OK {
		return nil, api.ErrArg
	}
	return m.set(key, h), api.OK
}

func (m model) add(key string, v api.Ver) (model, api.Errno) {
	h, e := hist.Add(m[key], v)
	if !modelKey(key) || e != api.OK {
		return nil, api.ErrArg
	}
	return m.set(key, h), api.OK
}

func (m model) del(from, end string, rev, mod int64) (model, int64, api.Errno) {
	if !modelRange(from, end) {
		return nil, 0, api.ErrArg
	}
	n, count := m, int64(0)
	for k, h := range m {
		_, live := hist.Live(h)
		if !live || !modelIn(from, end, k) {
			continue
		}
		l, e := hist.Del(h, rev, mod)
		if e != api.OK {
			return nil, 0, e
		}
		n = n.set(k, l)
		count++
	}
	return n, count, api.OK
}

func (m model) drop(from, end string) model {
	n := m
	for k := range m {
		if modelIn(from, end, k) {
			n = n.set(k, nil)
		}
	}
	return n
}

func (m model) trim(floor int64) model {
	n := m
	for k, h := range m {
		n = n.set(k, hist.Trim(h, floor))
	}
	return n
}

// at are all that were there at rev, of the keys that pick takes.
func (m model) at(rev int64, pick func(k string) bool) []api.Item {
	l := []api.Item{}
	for _, k := range sorted(m) {
		if v, ok := hist.At(m[k], rev); ok && pick(k) {
			l = append(l, item(k, v))
		}
	}
	return l
}

func (m model) changes(from, end string, since, to int64, most int) []api.Batch {
	revs := map[int64][]api.Item{}
	for _, k := range sorted(m) {
		for _, v := range m[k] {
			if modelIn(from, end, k) && v.Rev >= since && v.Rev <= to {
				revs[v.Rev] = append(revs[v.Rev], item(k, v))
			}
		}
	}
	order := []int64{}
	for rev := range revs {
		order = append(order, rev)
	}
	slices.Sort(order)
	l, all := []api.Batch{}, 0
	for _, rev := range order {
		all += len(revs[rev])
		if all <= most || len(l) == 0 {
			l = append(l, api.Batch{Rev: rev, L: revs[rev]})
		} else {
			break
		}
	}
	return l
}

func (m model) leased(lease int64) []string {
	l := []string{}
	for _, k := range sorted(m) {
		if v, ok := hist.Live(m[k]); ok && lease != 0 && v.Lease == lease {
			l = append(l, k)
		}
	}
	return l
}

func (m model) all() []key {
	l := []key{}
	for _, k := range sorted(m) {
		l = append(l, key{Key: k, V: m[k]})
	}
	return l
}

// some is one of these.
func some[T any](r *rand.Rand, l ...T) T { return l[r.Intn(len(l))] }

// name is one of few keys, some of which begin others; seldom what is no key.
func name(r *rand.Rand) string {
	if r.Intn(40) == 0 {
		return some(r, "", " ", "a ", "\x7f", "a\x7f", strings.Repeat("a", 33), "\xff")
	}
	return some(r, "!", "a", "a!", "aa", "ab", "ab~", "ac", "b", "ba", "b~", "b~~", "~", "~~", strings.Repeat("a", 32), strings.Repeat("~", 32))
}

// bounds are a range, seldom what is none.
func bounds(r *rand.Rand) (string, string) {
	if r.Intn(5) == 0 {
		return "!", "\x7f"
	}
	from, end := name(r), some(r, name(r), name(r), name(r)+"\x7f", "", "\x7f", "c")
	if end != "" && end < from && r.Intn(8) > 0 {
		return end, from
	}
	return from, end
}

// pair is an Index, and what it should be.
type pair struct {
	x index.Index
	m model
	// rev is the greatest Rev that it has, or had.
	rev int64
}

// near is a revision around those of p; seldom one that is far off.
func (p pair) near(r *rand.Rand) int64 {
	if r.Intn(20) == 0 {
		return some[int64](r, math.MinInt64, -1, 0, 1, top, top+1, math.MaxInt64)
	}
	return r.Int63n(p.rev+4) - 1
}

// held holds what a call that changes answered, and answers what is gone on from.
func (p pair) held(t *testing.T, what string, x index.Index, e api.Errno, m model, wantErr api.Errno) pair {
	t.Helper()
	if e != wantErr {
		t.Fatalf("%s of %s: %v, want %v", what, text(p.m.all()), e, wantErr)
	}
	stands(t, what+" of "+text(p.m.all()), x, m.all())
	if t.Failed() {
		t.FailNow()
	}
	if e != api.OK {
		return p
	}
	next := pair{x: x, m: m, rev: p.rev}
	for _, h := range m {
		next.rev = max(next.rev, h[len(h)-1].Rev)
	}
	if next.rev > 1000 {
		// One so far off leaves no way on.
		return p
	}
	return next
}

// turn does one thing to an Index, holds what it answers, and answers what it has come to.
func (p pair) turn(t *testing.T, r *rand.Rand) pair {
	t.Helper()
	rev := p.rev + some[int64](r, 0, 1, 1, 1, 1, 2)
	if r.Intn(12) == 0 {
		rev = p.near(r)
	}
	mod := rev + some[int64](r, 0, 0, 0, 0, 3)
	switch r.Intn(12) {
	case 0, 1, 2, 3, 4:
		k, lease := name(r), some[int64](r, 0, 0, 1, 2, -2, 2, top+1)
		x, e := p.x.Put(k, rev, mod, "v", lease)
		m, wantErr := p.m.put(k, rev, mod, "v", lease)
		return p.held(t, fmt.Sprintf("Put of %q, %d, %d, %d", k, rev, mod, lease), x, e, m, wantErr)
	case 5, 6, 7:
		from, end := bounds(r)
		x, n, e := p.x.Del(from, end, rev, mod)
		m, count, wantErr := p.m.del(from, end, rev, mod)
		if n != count {
			t.Fatalf("Del of %q, %q, %d, %d: %d, want %d", from, end, rev, mod, n, count)
		}
		return p.held(t, fmt.Sprintf("Del of %q, %q, %d, %d", from, end, rev, mod), x, e, m, wantErr)
	case 8, 9:
		k, v := name(r), some(r, there(rev, 1, mod, 3, "w", 2), there(rev, mod, mod, 1, "", 0), gone(rev, mod), api.Ver{Rev: rev, Mod: mod})
		x, e := p.x.Add(k, v)
		m, wantErr := p.m.add(k, v)
		return p.held(t, fmt.Sprintf("Add of %q, %+v", k, v), x, e, m, wantErr)
	case 10:
		from, end := bounds(r)
		return p.held(t, fmt.Sprintf("Drop of %q, %q", from, end), p.x.Drop(from, end), api.OK, p.m.drop(from, end), api.OK)
	}
	floor := p.near(r)
	if r.Intn(3) > 0 {
		floor = p.rev - r.Int63n(20)
	}
	return p.held(t, fmt.Sprintf("Trim at %d", floor), p.x.Trim(floor), api.OK, p.m.trim(floor), api.OK)
}

// asked holds what an Index tells.
func (p pair) asked(t *testing.T, r *rand.Rand) {
	t.Helper()
	from, end := bounds(r)
	rev, to, most := p.near(r), p.near(r), r.Intn(9)-1
	want := p.m.at(rev, func(k string) bool { return modelIn(from, end, k) })
	got, n := p.x.At(from, end, rev, most)
	if !slices.Equal(got, first(want, most)) || n != int64(len(want)) {
		t.Fatalf("At of %s, %q, %q, %d, %d: %s, %d, want %s", text(p.m.all()), from, end, rev, most, text(got), n, text(want))
	}
	prefix, after := some(r, "", "a", "ab", "b", "~", name(r)), some(r, "", "", "a", "ab!", name(r))
	want = p.m.at(rev, func(k string) bool { return strings.Index(k, prefix) == 0 && k > after })
	got, all := p.x.Behind(prefix, after, rev, most)
	if !slices.Equal(got, first(want, most)) || all != (len(got) == len(want)) {
		t.Fatalf("Behind of %s, %q, %q, %d, %d: %s, %v, want %s", text(p.m.all()), prefix, after, rev, most, text(got), all, text(want))
	}
	batches, wantBatches := p.x.Changes(from, end, rev, to, most), p.m.changes(from, end, rev, to, most)
	if !sameBatches(batches, wantBatches) {
		t.Fatalf("Changes of %s, %q, %q, %d, %d, %d: %s, want %s", text(p.m.all()), from, end, rev, to, most, text(batches), text(wantBatches))
	}
	lease := some[int64](r, 0, 1, 2, 2, -2, 3)
	if got, want := p.x.Leased(lease), p.m.leased(lease); !slices.Equal(got, want) {
		t.Fatalf("Leased of %s, %d: %v, want %v", text(p.m.all()), lease, got, want)
	}
	k := name(r)
	v, ok := p.x.Live(k)
	if want, wantOk := hist.Live(p.m[k]); v != want || ok != wantOk {
		t.Fatalf("Live of %s, %q: %+v, %v, want %+v, %v", text(p.m.all()), k, v, ok, want, wantOk)
	}
}

// P15.1 to P15.3: in random turns, which go on from any Index that was, each is what the model is, and stays so to the end.
func TestTurns(t *testing.T) {
	for seed := range int64(150) {
		r := rand.New(rand.NewSource(seed))
		pairs := []pair{{m: model{}}}
		for n := range 120 {
			p := pairs[len(pairs)-1]
			if r.Intn(6) == 0 {
				p = some(r, pairs...)
			}
			p = p.turn(t, r)
			p.asked(t, r)
			if n%20 == 0 {
				from, end := bounds(r)
				follows(t, p.x, p.rev+1, [][2]string{{"!", "\x7f"}, {from, end}})
			}
			pairs = append(pairs, p)
		}
		for _, p := range pairs {
			stands(t, "what was", p.x, p.m.all())
			p.asked(t, r)
		}
	}
}
