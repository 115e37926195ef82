package queue_test

import (
	"math"
	"math/rand"
	"slices"
	"strconv"
	"sync"
	"testing"

	"decamp/api"
	"decamp/queue"
)

// made is a queue for most things, in which those given wait.
func made[T any](t *testing.T, most int, things ...T) *queue.Queue[T] {
	t.Helper()
	q, e := queue.New[T](most)
	if q == nil || e != api.OK {
		t.Fatalf("New(%d): %v, %v", most, q, e)
	}
	for i, x := range things {
		if e := q.Put(x); e != api.OK {
			t.Fatalf("Put of thing %d of %d in a queue for %d: %v", i+1, len(things), most, e)
		}
	}
	return q
}

// holds asks for how many wait, and then takes them all: those wanted, in that order, and nothing behind them.
func holds[T comparable](t *testing.T, q *queue.Queue[T], want ...T) {
	t.Helper()
	var none T
	if n := q.Len(); n != len(want) {
		t.Errorf("Len: %d, want %d", n, len(want))
	}
	for i, w := range want {
		if x, ok := q.Take(); x != w || !ok {
			t.Errorf("Take %d: %v, %v, want %v", i+1, x, ok, w)
		}
		if n := q.Len(); n != len(want)-i-1 {
			t.Errorf("Len behind Take %d: %d, want %d", i+1, n, len(want)-i-1)
		}
	}
	if x, ok := q.Take(); x != none || ok {
		t.Errorf("Take of nothing: %v, %v", x, ok)
	}
}

// rising tells so many numbers, from first on.
func rising(first, n int) []int {
	l := make([]int, n)
	for i := range l {
		l[i] = first + i
	}
	return l
}

// P2.1: New refuses a most that isn't 1 to MaxQueue, and beside the error there is no queue.
func TestNewRefuses(t *testing.T) {
	for _, most := range []int{0, -1, -api.MaxQueue, math.MinInt, api.MaxQueue + 1, 2 * api.MaxQueue, 1 << 32, math.MaxInt} {
		if q, e := queue.New[int](most); q != nil || e != api.ErrArg {
			t.Errorf("New(%d): %v, %v", most, q, e)
		}
		if q, e := queue.New[struct{}](most); q != nil || e != api.ErrArg {
			t.Errorf("New(%d) of empty things: %v, %v", most, q, e)
		}
	}
}

// P2.1: of every most that may be, just so many wait; the next one is refused and changes nothing.
func TestNewHasRoomForMost(t *testing.T) {
	for most := 1; most <= api.MaxQueue; most++ {
		q := made[int](t, most)
		if q.Len() != 0 {
			t.Errorf("New(%d): Len %d", most, q.Len())
		}
		for i := range most {
			if e := q.Put(i + 1); e != api.OK || q.Len() != i+1 {
				t.Fatalf("New(%d), Put %d: %v, Len %d", most, i+1, e, q.Len())
			}
		}
		for range 3 {
			if e := q.Put(1000); e != api.ErrFull || q.Len() != most {
				t.Fatalf("New(%d), Put beyond: %v, Len %d", most, e, q.Len())
			}
		}
		holds(t, q, rising(1, most)...)
	}
}

// The chapter's example.
func TestExample(t *testing.T) {
	q := made[string](t, 1)
	if e := q.Put("a"); e != api.OK {
		t.Error(e)
	}
	if e := q.Put("b"); e != api.ErrFull {
		t.Error(e)
	}
	holds(t, q, "a")
}

// P2.1: a full queue has room again behind a Take, for one, and behind a Drain, for those drained.
func TestRoomAgain(t *testing.T) {
	q := made(t, 3, 1, 2, 3)
	if x, ok := q.Take(); x != 1 || !ok {
		t.Error(x, ok)
	}
	if e := q.Put(4); e != api.OK {
		t.Error(e)
	}
	if e := q.Put(5); e != api.ErrFull {
		t.Error(e)
	}
	if l := q.Drain(2); !slices.Equal(l, []int{2, 3}) {
		t.Error(l)
	}
	for x, want := range []api.Errno{api.OK, api.OK, api.ErrFull} {
		if e := q.Put(6 + x); e != want {
			t.Errorf("Put(%d): %v, want %v", 6+x, e, want)
		}
	}
	holds(t, q, 4, 6, 7)
}

// P2.1: Take and Drain of nothing, of a new queue and of one that is empty again.
func TestNothingWaits(t *testing.T) {
	q := made[string](t, 2)
	for range 3 {
		holds(t, q)
		for _, most := range []int{math.MinInt, -1, 0, 1, 2, api.MaxQueue, math.MaxInt} {
			if l := q.Drain(most); len(l) != 0 || q.Len() != 0 {
				t.Errorf("Drain(%d) of nothing: %v, Len %d", most, l, q.Len())
			}
		}
		if e := q.Put("a"); e != api.OK {
			t.Error(e)
		}
		holds(t, q, "a")
	}
}

// P2.1: Drain takes most at most, those that wait longest; what stays, stays in order.
func TestDrain(t *testing.T) {
	const wait = 5
	for _, c := range []struct{ most, out int }{
		{math.MinInt, 0}, {-api.MaxQueue, 0}, {-1, 0}, {0, 0}, {1, 1}, {2, 2}, {4, 4},
		{5, 5}, {6, 5}, {api.MaxQueue, 5}, {api.MaxQueue + 1, 5}, {math.MaxInt32, 5}, {math.MaxInt, 5},
	} {
		for _, room := range []int{wait, wait + 1, api.MaxQueue} {
			q := made(t, room, rising(1, wait)...)
			if l := q.Drain(c.most); !slices.Equal(l, rising(1, c.out)) {
				t.Errorf("Drain(%d) of %d: %v", c.most, wait, l)
			}
			holds(t, q, rising(1+c.out, wait-c.out)...)
		}
	}
}

// P2.1: all drained at once, at the edges of how many may wait.
func TestDrainAll(t *testing.T) {
	for _, n := range []int{1, 2, api.MaxQueue - 1, api.MaxQueue} {
		q := made(t, api.MaxQueue, rising(7, n)...)
		if l := q.Drain(api.MaxQueue); !slices.Equal(l, rising(7, n)) {
			t.Errorf("Drain of %d: %v", n, l)
		}
		holds(t, q)
	}
}

// P2.2: whatever is put, taken and drained, and in whatever turns: what wasn't refused comes out, in order, once.
func TestAgainstList(t *testing.T) {
	rnd := rand.New(rand.NewSource(2))
	for round := range 300 {
		most := 1 + rnd.Intn(api.MaxQueue)
		if round < 100 {
			most = 1 + round%5
		}
		q := made[int](t, most)
		var want []int
		for step := range 400 {
			switch rnd.Intn(6) {
			case 0, 1, 2, 3:
				e := q.Put(step)
				if full := len(want) == most; full != (e == api.ErrFull) || !full && e != api.OK {
					t.Fatalf("for %d, %d wait, Put: %v", most, len(want), e)
				}
				if e == api.OK {
					want = append(want, step)
				}
			case 4:
				x, ok := q.Take()
				if ok != (len(want) > 0) || !ok && x != 0 || ok && x != want[0] {
					t.Fatalf("%v wait, Take: %v, %v", want, x, ok)
				}
				want = want[min(1, len(want)):]
			case 5:
				n := rnd.Intn(most+4) - 2
				l := q.Drain(n)
				out := min(max(n, 0), len(want))
				if !slices.Equal(l, want[:out]) {
					t.Fatalf("%v wait, Drain(%d): %v", want, n, l)
				}
				want = want[out:]
			}
			if q.Len() != len(want) {
				t.Fatalf("%v wait, Len: %d", want, q.Len())
			}
		}
		holds(t, q, want...)
	}
}

// P2.2: a thing put in twice comes out twice, and the zero value is a thing like others.
func TestSameThings(t *testing.T) {
	q := made(t, 6, 0, 3, 3, 0, 0)
	if x, ok := q.Take(); x != 0 || !ok {
		t.Error(x, ok)
	}
	if l := q.Drain(2); !slices.Equal(l, []int{3, 3}) {
		t.Error(l)
	}
	holds(t, q, 0, 0)
}

type thing struct {
	name string
	n    int
}

// P2.1: things of many types.
func TestTypes(t *testing.T) {
	holds(t, made(t, 2, "", "x"), "", "x")
	holds(t, made(t, 3, thing{"a", 1}, thing{}, thing{"b", 2}), thing{"a", 1}, thing{}, thing{"b", 2})
	holds(t, made(t, 2, 1.5, -2), 1.5, -2)
	holds(t, made(t, 3, struct{}{}, struct{}{}), struct{}{}, struct{}{})
	holds(t, made(t, 2, [2]byte{1, 2}, [2]byte{3}), [2]byte{1, 2}, [2]byte{3})
	holds[any](t, made[any](t, 3, nil, 1, "x"), nil, 1, "x")
	holds[error](t, made[error](t, 3, api.ErrFull, nil, api.OK), api.ErrFull, nil, api.OK)
	x, y := new(int), new(int)
	holds(t, made(t, 3, y, nil, x), y, nil, x)
	inner := made(t, 1, 5)
	holds(t, made(t, 1, inner), inner)
	holds(t, inner, 5)
	f := made(t, 1, func() int { return 9 })
	if g, ok := f.Take(); !ok || g() != 9 {
		t.Error("function")
	}
	if g, ok := f.Take(); ok || g != nil {
		t.Error("function of nothing")
	}
	wide := made(t, api.MaxQueue, [20000]int64{19999: 3})
	if l := wide.Drain(1); len(l) != 1 || l[0][19999] != 3 {
		t.Error("wide thing")
	}
}

// R3: what is put in is answered as it is: the same memory, spare room too.
func TestThingsStayAsTheyAre(t *testing.T) {
	b := make([]byte, 2, 8)
	q := made(t, 2, b, nil)
	b[1] = 7
	l := q.Drain(2)
	if len(l) != 2 || len(l[0]) != 2 || cap(l[0]) != 8 || &l[0][0] != &b[0] || l[0][1] != 7 || l[1] != nil {
		t.Error(l)
	}
	m := map[string]int{}
	maps := made(t, 1, m)
	m["a"] = 1
	if n, ok := maps.Take(); !ok || n["a"] != 1 {
		t.Error(n, ok)
	}
}

// R3: a list that Drain answered is nobody else's: neither the queue nor another list changes by it, or changes it.
func TestDrainIsNewMemory(t *testing.T) {
	q := made(t, 4, 1, 2, 3, 4)
	l := q.Drain(2)
	spare := l[:cap(l)]
	for i := range spare {
		spare[i] = 99
	}
	for _, x := range []int{5, 6} {
		if e := q.Put(x); e != api.OK {
			t.Error(e)
		}
	}
	n := q.Drain(4)
	if !slices.Equal(n, []int{3, 4, 5, 6}) {
		t.Error(n)
	}
	for _, x := range spare {
		if x != 99 {
			t.Error(spare)
		}
	}
}

// R2: queues don't know of each other.
func TestQueuesApart(t *testing.T) {
	a, b := made(t, 2, 1), made(t, 2, 10, 20)
	if e := b.Put(30); e != api.ErrFull {
		t.Error(e)
	}
	if e := a.Put(2); e != api.OK {
		t.Error(e)
	}
	holds(t, b, 10, 20)
	holds(t, a, 1, 2)
}

// R1: a nil queue refuses what is put, and has nothing.
func TestNilQueue(t *testing.T) {
	var q *queue.Queue[thing]
	for range 2 {
		if e := q.Put(thing{"a", 1}); e != api.ErrArg {
			t.Error(e)
		}
		if x, ok := q.Take(); x != (thing{}) || ok {
			t.Error(x, ok)
		}
		for _, most := range []int{math.MinInt, -1, 0, 1, api.MaxQueue, math.MaxInt} {
			if l := q.Drain(most); len(l) != 0 {
				t.Error(most, l)
			}
		}
		if n := q.Len(); n != 0 {
			t.Error(n)
		}
	}
}

// P2.2: whoever else puts in and takes out: what wasn't refused comes out once, and of each putter in order.
func TestManyHands(t *testing.T) {
	const putters, each = 4, 2000
	q := made[thing](t, 3)
	in := make([][]thing, putters)
	var putting, draining sync.WaitGroup
	for p := range putters {
		putting.Go(func() {
			for i := range each {
				if x := (thing{strconv.Itoa(p), i}); q.Put(x) == api.OK {
					in[p] = append(in[p], x)
				}
			}
		})
	}
	out := map[string][]thing{}
	draining.Go(func() {
		for range each {
			for _, x := range q.Drain(2) {
				out[x.name] = append(out[x.name], x)
			}
		}
	})
	putting.Wait()
	draining.Wait()
	for _, x := range q.Drain(3) {
		out[x.name] = append(out[x.name], x)
	}
	for p := range putters {
		if l := out[strconv.Itoa(p)]; !slices.Equal(l, in[p]) {
			t.Errorf("of putter %d: %d things put in, %d came out, or in another order", p, len(in[p]), len(l))
		}
	}
	holds(t, q)
}

// P2.2: those who take out at the same time share what waits, and none of them is told of what wasn't there.
func TestManyDrains(t *testing.T) {
	const hands, each = 4, 5000
	q := made[int](t, api.MaxQueue)
	in, out := make([][]int, hands), make([][]int, hands)
	var working sync.WaitGroup
	for h := range hands {
		working.Go(func() {
			for i := range each {
				if x := 1 + h*each + i; q.Put(x) == api.OK {
					in[h] = append(in[h], x)
				}
				out[h] = append(out[h], q.Drain(2)...)
			}
		})
	}
	working.Wait()
	all := slices.Sorted(slices.Values(append(slices.Concat(out...), q.Drain(api.MaxQueue)...)))
	if want := slices.Concat(in...); !slices.Equal(all, want) {
		t.Errorf("%d things put in, %d came out, or others", len(want), len(all))
	}
	holds(t, q)
}
