package lease_test

import (
	"slices"
	"testing"

	"decamp/api"
	"decamp/lease"
)

// spoil turns all of a list, and of its spare room.
func spoil[T any](l []T, to T) {
	l = l[:cap(l)]
	for i := range l {
		l[i] = to
	}
}

// R3: what is handed in is left as it is, spare room too, whatever Set makes of it, and isn't kept.
func TestWhatIsHandedIn(t *testing.T) {
	x := laid(t, town()...)
	for _, c := range []struct {
		what string
		last api.Lease
		want api.Errno
	}{
		{"right", api.Lease{ID: 2, TTL: 3, Left: 1}, api.OK},
		{"of no id", api.Lease{ID: -2, TTL: 3, Left: 1}, api.ErrArg},
		{"of no TTL", api.Lease{ID: 2, Left: 1}, api.ErrArg},
		{"of one twice", api.Lease{ID: 8, TTL: 3}, api.ErrArg},
	} {
		room := []api.Lease{{ID: 8, TTL: 6, Left: 9}, {ID: 5, TTL: 4}, c.last, {ID: 70, TTL: 70}, {ID: -7, TTL: -7, Left: -7}}
		was := slices.Clone(room)
		y, e := x.Set(room[:3], 100)
		if e != c.want {
			t.Errorf("Set %s: %v, want %v", c.what, e, c.want)
		}
		if !slices.Equal(room, was) {
			t.Errorf("Set %s: %+v was %+v", c.what, room, was)
		}
		spoil(room, api.Lease{ID: 1, TTL: 2, Left: 3})
		want := []one(nil)
		if e == api.OK {
			want = append(others(town()), runs(2, 3, 103), runs(5, 4, 104), runs(8, 6, 106))
		}
		stands(t, "Set "+c.what+", once that was spoilt", y, want)
	}
}

// R3: what is told is the caller's own: spoiling it spoils neither the Table nor what it tells another time.
func TestWhatIsToldIsTheCallersOwn(t *testing.T) {
	x := laid(t, town()...)
	y := x.Hold(3)
	for _, now := range []int64{0, 8, 13, top} {
		all, due := x.All(now), x.Due(now)
		allAgain, dueAgain := x.All(now), x.Due(now)
		wasAll, wasDue := slices.Clone(all), slices.Clone(due)
		spoil(all, api.Lease{ID: -7, TTL: -7, Left: -7})
		spoil(due, -7)
		if !slices.Equal(allAgain, wasAll) || !slices.Equal(dueAgain, wasDue) {
			t.Errorf("told ahead, at %d: %+v, %v", now, allAgain, dueAgain)
		}
		if all, due := x.All(now), x.Due(now); !slices.Equal(all, wasAll) || !slices.Equal(due, wasDue) {
			t.Errorf("told behind, at %d: %+v, %v", now, all, due)
		}
		stands(t, "what it was asked of", x, town())
		stands(t, "what is made of it", y, heldAt(town(), 3))
	}
}

// branches are all ways of making a Table of another one.
func branches() map[string]func(x lease.Table) lease.Table {
	return map[string]func(x lease.Table) lease.Table{
		"Grant":                  func(x lease.Table) lease.Table { y, _ := x.Grant(3, 9, 30); return y },
		"Grant of another kind":  func(x lease.Table) lease.Table { y, _ := x.Grant(-3, 9, 31); return y },
		"Grant that fails":       func(x lease.Table) lease.Table { y, _ := x.Grant(7, 9, 32); return y },
		"Keep":                   func(x lease.Table) lease.Table { y, _ := x.Keep(7, 33); return y },
		"Keep of one that ended": func(x lease.Table) lease.Table { y, _ := x.Keep(-1, 34); return y },
		"Keep of one held":       func(x lease.Table) lease.Table { y, _ := x.Keep(2, 35); return y },
		"Keep that fails":        func(x lease.Table) lease.Table { y, _ := x.Keep(6, 36); return y },
		"Drop":                   func(x lease.Table) lease.Table { y, _ := x.Drop(7); return y },
		"Drop of one held":       func(x lease.Table) lease.Table { y, _ := x.Drop(-9); return y },
		"Drop of none":           func(x lease.Table) lease.Table { y, _ := x.Drop(6); return y },
		"Hold":                   func(x lease.Table) lease.Table { return x.Hold(11) },
		"Hold at no time":        func(x lease.Table) lease.Table { return x.Hold(-1) },
		"Free":                   func(x lease.Table) lease.Table { return x.Free(12) },
		"Free at no time":        func(x lease.Table) lease.Table { return x.Free(top + 1) },
		"Set": func(x lease.Table) lease.Table {
			y, _ := x.Set([]api.Lease{{ID: 7, TTL: 2}, {ID: 4, TTL: 3}}, 37)
			return y
		},
		"Set of none": func(x lease.Table) lease.Table { y, _ := x.Set(nil, 38); return y },
		"Set that fails late": func(x lease.Table) lease.Table {
			y, _ := x.Set([]api.Lease{{ID: 7, TTL: 2}, {ID: 7, TTL: 2}}, 39)
			return y
		},
		"Put":                     func(x lease.Table) lease.Table { y, _ := x.Put(api.Lease{ID: 4, TTL: 8, Left: 7}, false, 40); return y },
		"Put of one held":         func(x lease.Table) lease.Table { y, _ := x.Put(api.Lease{ID: -4, TTL: 8, Left: 7}, true, 41); return y },
		"Put of what is there":    func(x lease.Table) lease.Table { y, _ := x.Put(api.Lease{ID: 7, TTL: 8, Left: 7}, true, 42); return y },
		"Put that fails":          func(x lease.Table) lease.Table { y, _ := x.Put(api.Lease{ID: 7, TTL: 8, Left: 9}, true, 43); return y },
		"Put of one that is held": func(x lease.Table) lease.Table { y, _ := x.Put(api.Lease{ID: 9, TTL: 8, Left: 7}, false, 44); return y },
	}
}

// looks tells all of a Table.
func looks(x lease.Table) string {
	l := ""
	for _, now := range []int64{0, 13, 50, top} {
		l += text(x.All(now)) + text(x.Due(now))
	}
	for _, a := range x.All(0) {
		l += text(x.Held(a.ID))
	}
	return l
}

// P16.1, P16.2, R3: a Table stays as it was whatever is made of it, and so do all that are made of it, whatever is made of the others.
func TestATableStaysAsItWas(t *testing.T) {
	x := laid(t, town()...)
	for first, one := range branches() {
		y := one(x)
		was := looks(y)
		for second, another := range branches() {
			z := another(x)
			wasZ := looks(z)
			for _, third := range branches() {
				third(y)
				third(z)
			}
			if looks(y) != was || looks(z) != wasZ {
				t.Fatalf("%s, and %s: %s was %s; %s was %s", first, second, looks(y), was, looks(z), wasZ)
			}
		}
	}
	stands(t, "what it was asked of", x, town())
}

// P16.1, P16.2, R5: a call that can't be leaves what it was asked of as it was; without an Errno it is the same Table.
func TestTheSameTable(t *testing.T) {
	x := laid(t, town()...)
	for _, now := range []int64{-1, top + 1} {
		if x.Hold(now) != x || x.Free(now) != x {
			t.Errorf("another Table at %d", now)
		}
	}
	if y, ok := x.Drop(6); y != x || ok {
		t.Errorf("another Table: Drop of none, %v", ok)
	}
	y := laid(t, runs(-3, 5, 9), rests(-4, 5, 3), rests(4, 5, 3))
	if y.Hold(7) != y {
		t.Error("another Table: Hold of none")
	}
	z := laid(t, runs(-3, 5, 9), runs(3, 5, 9))
	if z.Free(7) != z {
		t.Error("another Table: Free of none")
	}
}
