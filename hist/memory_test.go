package hist_test

import (
	"slices"
	"testing"

	"decamp/api"
	"decamp/hist"
)

// roomy is h in memory of its own, with spare room that has something.
func roomy(h []api.Ver) []api.Ver {
	return append(slices.Clone(h), there(77, 7, 777, 7, "room", 7), gone(78, 778), api.Ver{})[:len(h)]
}

// wide tells all of a list, with its spare room.
func wide(h []api.Ver) string { return text(h[:cap(h)]) }

// spoil turns all of a list, and of its spare room.
func spoil(h []api.Ver) {
	h = h[:cap(h)]
	for i := range h {
		h[i] = api.Ver{Rev: -7, Make: -7, Mod: -7, Version: -7, Value: "spoilt", Lease: -7, Gone: true}
	}
}

// lists are the calls that answer a list.
func lists() map[string]func(h []api.Ver) []api.Ver {
	return map[string]func(h []api.Ver) []api.Ver{
		"Put": func(h []api.Ver) []api.Ver {
			l, _ := hist.Put(h, 30, 300, "v", 1)
			return l
		},
		"Del": func(h []api.Ver) []api.Ver {
			l, _ := hist.Del(h, 30, 300)
			return l
		},
		"Add": func(h []api.Ver) []api.Ver {
			l, _ := hist.Add(h, there(30, 3, 300, 3, "v", 1))
			return l
		},
		"Since of all":    func(h []api.Ver) []api.Ver { return hist.Since(h, 0, 99) },
		"Since of some":   func(h []api.Ver) []api.Ver { return hist.Since(h, 5, 12) },
		"Since of none":   func(h []api.Ver) []api.Ver { return hist.Since(h, 6, 7) },
		"Trim of all":     func(h []api.Ver) []api.Ver { return hist.Trim(h, 99) },
		"Trim of some":    func(h []api.Ver) []api.Ver { return hist.Trim(h, 6) },
		"Trim of nothing": func(h []api.Ver) []api.Ver { return hist.Trim(h, 0) },
	}
}

// handed are lists that are handed in, right ones and wrong ones.
func handed() [][]api.Ver {
	l := [][]api.Ver{{}, life()[:1], life()[:3], life(), ended()}
	for _, h := range wrong() {
		l = append(l, h)
	}
	return l
}

// R3: each call leaves what is handed in as it is, and its spare room, also where it answers an error.
func TestLeftAsItIs(t *testing.T) {
	for _, l := range handed() {
		h := roomy(l)
		was := wide(h)
		hist.Right(h)
		hist.Live(h)
		for rev := int64(-1); rev < 22; rev++ {
			hist.At(h, rev)
			hist.Since(h, rev, 13)
			hist.Trim(h, rev)
			hist.Put(h, rev, 300, "v", 1)
			hist.Del(h, rev, 300)
			hist.Add(h, gone(rev, 300))
		}
		for what, call := range lists() {
			call(h)
			if wide(h) != was {
				t.Errorf("%s of %s: what was handed in is %s", what, was, wide(h))
			}
		}
	}
}

// R3: what a call answers doesn't change with what was handed in, and the other way round; spare room, too.
func TestAnswersAreTheCallersOwn(t *testing.T) {
	for _, l := range handed() {
		for what, call := range lists() {
			h := roomy(l)
			was := wide(h)
			one, two := call(h), call(h)
			want := text(one)
			spoil(one)
			if wide(h) != was {
				t.Errorf("%s of %s: spoiling the answer spoils what was handed in", what, was)
			}
			if text(two) != want {
				t.Errorf("%s of %s: spoiling the answer spoils another one", what, was)
			}
			spoil(h)
			if text(two) != want {
				t.Errorf("%s of %s: spoiling what was handed in spoils the answer", what, was)
			}
			if got := call(roomy(l)); text(got) != want {
				t.Errorf("%s of %s: another answer than before: %s", what, was, text(got))
			}
		}
	}
}

// R3: two that go on from one history don't see each other, though it has room for both.
func TestTwoGoOnFromOne(t *testing.T) {
	h := make([]api.Ver, 0, 8)
	h = append(h, life()...)
	one, _ := hist.Put(h, 30, 300, "one", 1)
	two, _ := hist.Put(h, 31, 310, "two", 2)
	three, _ := hist.Del(h, 32, 320)
	comes(t, "the first", one, api.OK, life(), there(30, 120, 300, 3, "one", 1))
	comes(t, "the second", two, api.OK, life(), there(31, 120, 310, 3, "two", 2))
	comes(t, "the third", three, api.OK, life(), gone(32, 320))
	first, _ := hist.Put(one, 40, 400, "first", 1)
	second, _ := hist.Add(one, gone(41, 410))
	comes(t, "behind the first", first, api.OK, one, there(40, 120, 400, 4, "first", 1))
	comes(t, "behind the first", second, api.OK, one, gone(41, 410))
}

// R1: each call ends, and none panics, of whatever lists, numbers and values.
func TestNothingPanics(t *testing.T) {
	lists := handed()
	lists = append(lists, nil, make([]api.Ver, 1000), slices.Repeat(ended(), 100))
	for _, h := range lists {
		for _, a := range numbers() {
			for _, b := range numbers() {
				hist.Right(h)
				hist.Live(h)
				hist.At(h, a.v)
				hist.Since(h, a.v, b.v)
				hist.Trim(h, a.v)
				hist.Del(h, a.v, b.v)
				for value := range values() {
					hist.Put(h, a.v, b.v, value, b.v)
				}
				hist.Add(h, api.Ver{Rev: a.v, Make: b.v, Mod: a.v, Version: b.v, Lease: b.v, Gone: a.ok})
			}
		}
	}
}
