package hist_test

import (
	"fmt"
	"math"
	"math/rand"
	"slices"
	"testing"

	"decamp/api"
	"decamp/hist"
)

// modelVer tells whether a version is right, by the chapter's words.
func modelVer(v api.Ver) bool {
	in := func(n, least, most int64) bool { return n >= least && n <= most }
	switch {
	case !in(v.Rev, 1, top), !in(v.Mod, 1, top):
		return false
	case v.Gone:
		return v.Make == 0 && v.Version == 0 && v.Lease == 0 && v.Value == ""
	}
	return in(v.Make, 1, v.Mod) && in(v.Version, 1, top) && len([]byte(v.Value)) <= 40 && in(v.Lease, 0-top, top)
}

// modelRight tells whether versions are a history: each is right, and each two stand as they rise.
func modelRight(h []api.Ver) bool {
	for i, v := range h {
		if !modelVer(v) {
			return false
		}
		for _, later := range h[i+1:] {
			if later.Rev <= v.Rev || later.Mod <= v.Mod {
				return false
			}
		}
	}
	return true
}

func modelAdd(h []api.Ver, v api.Ver) ([]api.Ver, api.Errno) {
	l := append(slices.Clone(h), v)
	if !modelRight(l) {
		return nil, api.ErrArg
	}
	return l, api.OK
}

// modelLast is the last one of those that pick takes of a history, unless it is Gone.
func modelLast(h []api.Ver, pick func(v api.Ver) bool) (api.Ver, bool) {
	if !modelRight(h) {
		return api.Ver{}, false
	}
	found := api.Ver{Gone: true}
	for _, v := range h {
		if pick(v) {
			found = v
		}
	}
	if found.Gone {
		return api.Ver{}, false
	}
	return found, true
}

func modelLive(h []api.Ver) (api.Ver, bool) {
	return modelLast(h, func(v api.Ver) bool { return true })
}

func modelAt(h []api.Ver, rev int64) (api.Ver, bool) {
	return modelLast(h, func(v api.Ver) bool { return v.Rev <= rev })
}

func modelPut(h []api.Ver, rev, mod int64, value string, lease int64) ([]api.Ver, api.Errno) {
	if now, ok := modelLive(h); ok {
		return modelAdd(h, there(rev, now.Make, mod, now.Version+1, value, lease))
	}
	return modelAdd(h, there(rev, mod, mod, 1, value, lease))
}

func modelDel(h []api.Ver, rev, mod int64) ([]api.Ver, api.Errno) {
	l, e := modelAdd(h, gone(rev, mod))
	if _, ok := modelLive(h); e == api.OK && !ok {
		return nil, api.ErrNone
	}
	return l, e
}

func modelSince(h []api.Ver, from, to int64) []api.Ver {
	if !modelRight(h) {
		return nil
	}
	return slices.DeleteFunc(slices.Clone(h), func(v api.Ver) bool { return v.Rev < from || v.Rev > to })
}

func modelTrim(h []api.Ver, floor int64) []api.Ver {
	if !modelRight(h) {
		return nil
	}
	keep, ok := modelAt(h, floor)
	return slices.DeleteFunc(slices.Clone(h), func(v api.Ver) bool { return v.Rev <= floor && (!ok || v != keep) })
}

// some is one of these.
func some[T any](r *rand.Rand, l ...T) T { return l[r.Intn(len(l))] }

// near is a number around one of those that l has; now and then one that is far off.
func near(r *rand.Rand, l []api.Ver, number func(v api.Ver) int64) int64 {
	if r.Intn(10) == 0 {
		return some[int64](r, math.MinInt64, -top, -1, 0, 1, top-1, top, top+1, math.MaxInt64)
	}
	at := int64(1)
	if len(l) > 0 {
		at = number(l[len(l)-1])
		if r.Intn(3) == 0 {
			at = number(some(r, l...))
		}
	}
	return at + some[int64](r, -2, -1, 0, 0, 1, 1, 1, 2, 3)
}

func revOf(v api.Ver) int64 { return v.Rev }

func modOf(v api.Ver) int64 { return v.Mod }

// value is one of few Values, seldom too long a one.
func value(r *rand.Rand) string {
	b := make([]byte, some(r, 0, 1, 2, 7, 39, 40, 40))
	if r.Intn(20) == 0 {
		b = make([]byte, 41+r.Intn(3))
	}
	r.Read(b)
	return string(b)
}

// ver is a version as it comes: one that may stand behind l, or one that is wrong in something.
func ver(r *rand.Rand, l []api.Ver) api.Ver {
	rev, mod := near(r, l, revOf), near(r, l, modOf)
	if r.Intn(3) == 0 {
		v := gone(rev, mod)
		switch r.Intn(24) {
		case 0:
			v.Make = 1
		case 1:
			v.Version = 1
		case 2:
			v.Lease = -1
		case 3:
			v.Value = "v"
		}
		return v
	}
	made := some(r, 1, mod, mod, mod, mod-1, mod+some[int64](r, 0, 0, 0, 0, 1))
	version := some[int64](r, 1, 1, 2, 3, 3, top, 0, top-1, 4, 5, 6, 7, top+1)
	return there(rev, made, mod, version, value(r), lease(r))
}

// lease is one of few Leases, seldom one that is beyond.
func lease(r *rand.Rand) int64 {
	if r.Intn(20) == 0 {
		return some[int64](r, math.MinInt64, -top-1, top+1, math.MaxInt64)
	}
	return some[int64](r, -top, -1, 0, 0, 1, 5, top)
}

// heldAdd holds what a call that adds answered against the model's answer.
func heldAdd(t *testing.T, what string, got []api.Ver, e api.Errno, want []api.Ver, wantErr api.Errno) {
	t.Helper()
	if e != wantErr || !slices.Equal(got, want) {
		t.Fatalf("%s: %v, %s, want %v, %s", what, e, text(got), wantErr, text(want))
	}
}

// heldAsk holds all that is asked of one list against the model.
func heldAsk(t *testing.T, h []api.Ver, revs []int64) {
	t.Helper()
	if got, want := hist.Right(h), modelRight(h); got != want {
		t.Fatalf("Right of %s: %v", text(h), got)
	}
	v, ok := hist.Live(h)
	if want, wantOk := modelLive(h); v != want || ok != wantOk {
		t.Fatalf("Live of %s: %v, %v, want %v, %v", text(h), v, ok, want, wantOk)
	}
	for n, rev := range revs {
		v, ok := hist.At(h, rev)
		if want, wantOk := modelAt(h, rev); v != want || ok != wantOk {
			t.Fatalf("At of %s, %d: %v, %v, want %v, %v", text(h), rev, v, ok, want, wantOk)
		}
		if got, want := hist.Trim(h, rev), modelTrim(h, rev); !slices.Equal(got, want) {
			t.Fatalf("Trim of %s, %d: %s, want %s", text(h), rev, text(got), text(want))
		}
		to := revs[(n+1)%len(revs)]
		if got, want := hist.Since(h, rev, to), modelSince(h, rev, to); !slices.Equal(got, want) {
			t.Fatalf("Since of %s, %d, %d: %s, want %s", text(h), rev, to, text(got), text(want))
		}
	}
}

// turn does one thing to a history, holds what it answers, and answers what it has come to.
func turn(t *testing.T, r *rand.Rand, h []api.Ver) []api.Ver {
	t.Helper()
	rev, mod := near(r, h, revOf), near(r, h, modOf)
	var got, want []api.Ver
	var e, wantErr api.Errno
	what := ""
	switch r.Intn(8) {
	case 0, 1, 2:
		value, lease := value(r), lease(r)
		what = fmt.Sprintf("Put to %s of %d, %d, %q, %d", text(h), rev, mod, value, lease)
		got, e = hist.Put(h, rev, mod, value, lease)
		want, wantErr = modelPut(h, rev, mod, value, lease)
	case 3, 4:
		what = fmt.Sprintf("Del of %s at %d, %d", text(h), rev, mod)
		got, e = hist.Del(h, rev, mod)
		want, wantErr = modelDel(h, rev, mod)
	case 5, 6:
		v := ver(r, h)
		what = fmt.Sprintf("Add to %s of %+v", text(h), v)
		got, e = hist.Add(h, v)
		want, wantErr = modelAdd(h, v)
	case 7:
		// A long one is trimmed, so that it doesn't grow without end.
		if len(h) < 12 {
			return h
		}
		what = fmt.Sprintf("Trim of %s at %d", text(h), rev)
		got, want = hist.Trim(h, rev), modelTrim(h, rev)
	}
	heldAdd(t, what, got, e, want, wantErr)
	if e != api.OK {
		return h
	}
	return got
}

// P14.1, P14.2: in random turns a history is what the model is; all that it was stays as it was to the end.
func TestTurns(t *testing.T) {
	for seed := range int64(300) {
		r := rand.New(rand.NewSource(seed))
		h := []api.Ver{}
		was, texts := [][]api.Ver{}, []string{}
		for range 120 {
			h = turn(t, r, h)
			heldAsk(t, h, []int64{near(r, h, revOf), near(r, h, revOf), near(r, h, revOf)})
			was, texts = append(was, h), append(texts, text(h))
		}
		for n, h := range was {
			if text(h) != texts[n] {
				t.Fatalf("seed %d: a history has changed from %s to %s", seed, texts[n], text(h))
			}
		}
	}
}

// P14.1, P14.2: of random lists, most of them wrong in something, each call answers as the model does.
func TestRandomLists(t *testing.T) {
	r := rand.New(rand.NewSource(14))
	right, wrong := 0, 0
	for range 60000 {
		h := []api.Ver{}
		for range r.Intn(5) {
			h = append(h, ver(r, h))
		}
		if modelRight(h) && len(h) > 0 {
			right++
		} else {
			wrong++
		}
		heldAsk(t, h, []int64{near(r, h, revOf), near(r, h, revOf)})
		v := ver(r, h)
		got, e := hist.Add(h, v)
		want, wantErr := modelAdd(h, v)
		heldAdd(t, "Add to "+text(h)+" of "+text([]api.Ver{v}), got, e, want, wantErr)
		got, e = hist.Put(h, v.Rev, v.Mod, v.Value, v.Lease)
		want, wantErr = modelPut(h, v.Rev, v.Mod, v.Value, v.Lease)
		heldAdd(t, "Put to "+text(h)+" of "+text([]api.Ver{v}), got, e, want, wantErr)
		got, e = hist.Del(h, v.Rev, v.Mod)
		want, wantErr = modelDel(h, v.Rev, v.Mod)
		heldAdd(t, "Del of "+text(h)+" at "+text([]api.Ver{v}), got, e, want, wantErr)
	}
	if right < 5000 || wrong < 5000 {
		t.Errorf("%d right, %d wrong", right, wrong)
	}
}
