package lease_test

import (
	"fmt"
	"math/rand"
	"slices"
	"testing"

	"decamp/api"
	"decamp/lease"
)

// walked is a Table that has come out of random turns.
func walked(t *testing.T, r *rand.Rand, turns int) pair {
	t.Helper()
	p := pair{m: model{}}
	for range turns {
		p = p.turn(t, r, false)
	}
	return p
}

// isDue tells whether an id is due.
func isDue(x lease.Table, id, now int64) bool { return slices.Contains(x.Due(now), id) }

// P16.3: what is held never is due.
func TestWhatIsHeldIsNeverDue(t *testing.T) {
	held := 0
	for seed := range int64(400) {
		r := rand.New(rand.NewSource(seed))
		p := walked(t, r, 1+r.Intn(60))
		for n := range 3 {
			if n == 2 {
				p.x, p.m = p.x.Hold(p.now), p.m.hold(p.now)
			}
			for _, l := range p.x.All(0) {
				if !p.x.Held(l.ID) {
					continue
				}
				held++
				for now := range p.now + 40 {
					if isDue(p.x, l.ID, now) {
						t.Fatalf("%s: %d is held, and due at %d", text(p.m.list()), l.ID, now)
					}
				}
				if isDue(p.x, l.ID, top) {
					t.Fatalf("%s: %d is held, and due at last", text(p.m.list()), l.ID)
				}
			}
			p = p.turn(t, r, false)
		}
	}
	if held < 1000 {
		t.Errorf("held but %d times", held)
	}
}

// lives holds that an id isn't due for its TTL, and is from then on.
func lives(t *testing.T, what string, x lease.Table, id, ttl, from int64) {
	t.Helper()
	for n := range min(ttl, 40) {
		for _, now := range []int64{from + n, from + ttl - 1 - n} {
			if now <= top && isDue(x, id, now) {
				t.Fatalf("%s: due at %d", what, now)
			}
		}
	}
	for _, now := range []int64{from + ttl, from + ttl + 1, from + 2*ttl, top} {
		if now >= from+ttl && now <= top && !isDue(x, id, now) {
			t.Fatalf("%s: not due at %d", what, now)
		}
	}
}

// away does something to others than id.
func away(t *testing.T, r *rand.Rand, x lease.Table, id, now int64) lease.Table {
	t.Helper()
	other, e := some[int64](r, -5, -4, 4, 5), api.OK
	y := x
	switch r.Intn(4) {
	case 0:
		y, e = x.Grant(other, span(r), now)
	case 1:
		y, e = x.Keep(other, now)
	case 2:
		y, _ = x.Drop(other)
	default:
		y, e = x.Put(api.Lease{ID: other, TTL: 9, Left: r.Int63n(10)}, r.Intn(2) == 0, now)
	}
	if e != api.OK || other == id {
		return x
	}
	return y
}

// P16.3: who is granted isn't due for its TTL, and is from then on, whatever becomes of others.
func TestWhoIsGrantedLives(t *testing.T) {
	granted := 0
	for seed := range int64(400) {
		r := rand.New(rand.NewSource(seed))
		p := walked(t, r, r.Intn(60))
		for _, id := range []int64{-top, -3, -1, 1, 3, 6, -6, top} {
			ttl, now := some[int64](r, 1, 2, 7, longest), some(r, 0, p.now, p.now+9, top-3, top)
			x, e := p.x.Grant(id, ttl, now)
			if e != api.OK {
				continue
			}
			granted++
			for range r.Intn(4) {
				x = away(t, r, x, id, min(now+r.Int63n(9), top))
			}
			lives(t, fmt.Sprintf("Grant of %d, %d, %d of %s", id, ttl, now, text(p.m.list())), x, id, ttl, now)
		}
	}
	if granted < 500 {
		t.Errorf("granted but %d times", granted)
	}
}

// P16.3: who is kept isn't due for its TTL, and is from then on; if it is held, from the Free on.
func TestWhoIsKeptLives(t *testing.T) {
	kept := 0
	for seed := range int64(400) {
		r := rand.New(rand.NewSource(seed))
		p := walked(t, r, 5+r.Intn(60))
		for _, o := range p.m.list() {
			now := some(r, 0, p.now, p.now+9, top-3, top)
			x, e := p.x.Keep(o.id, now)
			if e != api.OK {
				t.Fatalf("Keep of %+v: %v", o, e)
			}
			kept++
			for range r.Intn(4) {
				if o.id != 4 && o.id != -4 {
					x = away(t, r, x, o.id, min(now+r.Int63n(9), top))
				}
			}
			what := fmt.Sprintf("Keep of %d at %d of %s", o.id, now, text(p.m.list()))
			if !o.held {
				lives(t, what, x, o.id, o.ttl, now)
				continue
			}
			free := some(r, now, now/2, min(now+50, top))
			lives(t, fmt.Sprintf("%s, freed at %d", what, free), x.Free(free), o.id, o.ttl, free)
		}
	}
	if kept < 1000 {
		t.Errorf("kept but %d times", kept)
	}
}

// P16.3: a Hold takes nothing of who was granted or kept: what it had left it has behind the Free.
func TestWhoIsHeldLosesNothing(t *testing.T) {
	for seed := range int64(300) {
		r := rand.New(rand.NewSource(seed))
		p := walked(t, r, 5+r.Intn(60))
		hold, free := p.now, p.now+r.Int63n(60)
		x := p.x.Hold(hold)
		y := x.Free(free)
		for _, l := range x.All(hold) {
			if !x.Held(l.ID) {
				continue
			}
			if was, ok := p.x.Get(l.ID, hold); was != l || !ok {
				t.Fatalf("%s: Hold at %d: %+v was %+v", text(p.m.list()), hold, l, was)
			}
			if l.Left > 0 {
				lives(t, fmt.Sprintf("%s: %+v, freed at %d", text(p.m.list()), l, free), y, l.ID, l.Left, free)
			} else if !isDue(y, l.ID, free) {
				t.Fatalf("%s: %+v, freed at %d, isn't due", text(p.m.list()), l, free)
			}
		}
	}
}
