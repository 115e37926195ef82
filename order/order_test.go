package order_test

import (
	"math"
	"math/bits"
	"math/rand"
	"slices"
	"sort"
	"strconv"
	"testing"

	"decamp/order"
)

type pair = order.Pair[int, int]

// of makes a map of keys, put in that order, each with ten times itself.
func of(keys ...int) order.Map[int, int] {
	var m order.Map[int, int]
	for _, k := range keys {
		m = m.Put(k, 10*k)
	}
	return m
}

// model is what a map should hold: pairs, rising.
type model []pair

func (l model) rank(k int) int {
	return sort.Search(len(l), func(i int) bool { return l[i].Key >= k })
}

func (l model) has(k int) bool {
	i := l.rank(k)
	return i < len(l) && l[i].Key == k
}

func (l model) put(k, v int) model {
	i := l.rank(k)
	if l.has(k) {
		l = slices.Clone(l)
		l[i].V = v
		return l
	}
	return slices.Insert(slices.Clone(l), i, pair{Key: k, V: v})
}

func (l model) del(k int) model {
	if !l.has(k) {
		return l
	}
	i := l.rank(k)
	return slices.Delete(slices.Clone(l), i, i+1)
}

func (l model) between(from, to int) []pair {
	if from >= to {
		return nil
	}
	return l[l.rank(from):l.rank(to)]
}

// check asks a map all that can be asked of keys from low to high, ends beyond them included.
func check(t *testing.T, m order.Map[int, int], want model, low, high int) {
	t.Helper()
	if m.Len() != len(want) || !slices.Equal(m.All(), want) {
		t.Fatal("all", m.Len(), m.All(), want)
	}
	checkDeep(t, m)
	for i := -2; i < len(want)+2; i++ {
		p, ok := m.At(i)
		there := 0 <= i && i < len(want)
		if ok != there || ok && p != want[i] || !ok && p != (pair{}) {
			t.Fatal("at", i, p, ok)
		}
	}
	for k := low; k <= high; k++ {
		v, ok := m.Get(k)
		if ok != want.has(k) || ok && v != want[want.rank(k)].V || !ok && v != 0 {
			t.Fatal("get", k, v, ok)
		}
		if m.Rank(k) != want.rank(k) {
			t.Fatal("rank", k, m.Rank(k), want.rank(k))
		}
		for to := low; to <= high; to++ {
			if !slices.Equal(m.Between(k, to), want.between(k, to)) {
				t.Fatal("between", k, to, m.Between(k, to))
			}
		}
	}
}

// checkDeep holds Deep against its bound, and against the fewest keys by which so many can be told apart.
func checkDeep(t *testing.T, m order.Map[int, int]) {
	t.Helper()
	digits := bits.Len(uint(m.Len()))
	if d := m.Deep(); d > 2*digits || d < digits {
		t.Fatal("deep", d, "of", m.Len())
	}
}

func TestZeroMap(t *testing.T) {
	var m order.Map[int, int]
	check(t, m, nil, -2, 2)
	check(t, m.Del(0), nil, -2, 2)
	if m.Deep() != 0 || m.Rank(math.MaxInt) != 0 {
		t.Error(m.Deep(), m.Rank(math.MaxInt))
	}
	check(t, m, nil, -2, 2)
}

func TestChaptersExample(t *testing.T) {
	m := of(2, 1)
	if p, ok := m.At(0); !ok || p != (pair{Key: 1, V: 10}) {
		t.Error(p, ok)
	}
	if m.Rank(2) != 1 {
		t.Error(m.Rank(2))
	}
}

func TestPutOfAKeyThatIsThere(t *testing.T) {
	m := of(1, 2, 3)
	check(t, m.Put(2, 7), model{{Key: 1, V: 10}, {Key: 2, V: 7}, {Key: 3, V: 30}}, 0, 4)
	check(t, m.Put(2, 0), model{{Key: 1, V: 10}, {Key: 2, V: 0}, {Key: 3, V: 30}}, 0, 4)
	if v, ok := m.Put(2, 0).Get(2); v != 0 || !ok {
		t.Error("a zero value is a value", v, ok)
	}
}

func TestDelOfAKeyThatIsNotThere(t *testing.T) {
	m := of(1, 3)
	for _, k := range []int{math.MinInt, 0, 2, 4, math.MaxInt} {
		n := m.Del(k)
		check(t, n, model{{Key: 1, V: 10}, {Key: 3, V: 30}}, 0, 4)
		if n != m {
			t.Error("another map", k)
		}
	}
	check(t, m.Del(1).Del(1).Del(3).Del(3), nil, 0, 4)
}

func TestAtOfNone(t *testing.T) {
	m := of(5)
	for _, i := range []int{math.MinInt, -1, 1, 2, math.MaxInt} {
		if p, ok := m.At(i); ok || p != (pair{}) {
			t.Error(i, p, ok)
		}
	}
}

func TestBetween(t *testing.T) {
	m := of(10, 20, 30, 40)
	for _, c := range []struct{ from, to, first, count int }{
		{10, 40, 10, 3},
		{10, 41, 10, 4},
		{11, 40, 20, 2},
		{20, 21, 20, 1},
		{21, 30, 0, 0},
		{20, 20, 0, 0},
		{40, 10, 0, 0},
		{41, 99, 0, 0},
		{0, 10, 0, 0},
		{math.MinInt, math.MaxInt, 10, 4},
		{math.MaxInt, math.MinInt, 0, 0},
	} {
		l := m.Between(c.from, c.to)
		if len(l) != c.count {
			t.Error(c, l)
			continue
		}
		for i, p := range l {
			if p.Key != c.first+10*i || p.V != 10*p.Key {
				t.Error(c, l)
			}
		}
	}
}

// Each way in which a few keys may come and go is tried: every turn of a tree is among them.
func TestAllOrdersOfAFewKeys(t *testing.T) {
	const most = 6
	var try func(m order.Map[int, int], want model, left []int)
	try = func(m order.Map[int, int], want model, left []int) {
		check(t, m, want, -1, most)
		for i, k := range left {
			rest := slices.Delete(slices.Clone(left), i, i+1)
			try(m.Put(k, 10*k), want.put(k, 10*k), rest)
		}
		for _, p := range want {
			check(t, m.Del(p.Key), want.del(p.Key), -1, most)
		}
	}
	try(order.Map[int, int]{}, nil, []int{0, 1, 2, 3, 4, 5})
}

func TestAgainstASortedList(t *testing.T) {
	for seed := range int64(20) {
		r := rand.New(rand.NewSource(seed))
		high := 5 + int(seed)*2
		var m order.Map[int, int]
		var want model
		for range 150 {
			k := r.Intn(high)
			if r.Intn(5) < 3 {
				v := r.Intn(1000)
				m, want = m.Put(k, v), want.put(k, v)
			} else {
				m, want = m.Del(k), want.del(k)
			}
			check(t, m, want, -1, high)
		}
	}
}

func TestDeep(t *testing.T) {
	const most = 3000
	ways := map[string]func(i int) int{
		"rising":  func(i int) int { return i },
		"falling": func(i int) int { return most - i },
		"ends":    func(i int) int { return i * (1 - i%2*2) },
		"mixed":   func(i int) int { return i * 7919 % most },
	}
	for name, key := range ways {
		t.Run(name, func(t *testing.T) {
			var m order.Map[int, int]
			for i := range most {
				m = m.Put(key(i), i)
				checkDeep(t, m)
			}
			half := m
			for i := range most {
				m = m.Del(key(i))
				checkDeep(t, m)
			}
			if m.Len() != 0 || m.Deep() != 0 {
				t.Error(m.Len(), m.Deep())
			}
			for i := range most {
				if i%16 != 0 {
					half = half.Del(key(most - 1 - i))
					checkDeep(t, half)
				}
			}
		})
	}
	if of(1).Deep() != 1 {
		t.Error("one key is looked at once")
	}
}

func TestAMapStaysWhateverIsMadeOfIt(t *testing.T) {
	r := rand.New(rand.NewSource(1))
	maps := []order.Map[int, int]{{}}
	wants := []model{nil}
	for range 600 {
		i := r.Intn(len(maps))
		k, v := r.Intn(25), r.Intn(1000)
		if r.Intn(3) > 0 {
			maps, wants = append(maps, maps[i].Put(k, v)), append(wants, wants[i].put(k, v))
		} else {
			maps, wants = append(maps, maps[i].Del(k)), append(wants, wants[i].del(k))
		}
	}
	for i, m := range maps {
		check(t, m, wants[i], -1, 25)
	}
}

// A long chain of maps: what is made last must not show in the ones ahead of it.
func TestAllMapsOnTheWayStay(t *testing.T) {
	var made []order.Map[int, int]
	var m order.Map[int, int]
	for k := range 300 {
		made = append(made, m)
		m = m.Put(k*7%300, k)
	}
	for k := range 300 {
		m = m.Del(k)
	}
	for n, old := range made {
		if old.Len() != n || len(old.All()) != n {
			t.Fatal(n, old.Len())
		}
		for k := range 300 {
			if v, ok := old.Get(k * 7 % 300); ok != (k < n) || ok && v != k {
				t.Fatal(n, k, v, ok)
			}
		}
	}
}

func TestAnswersAreNewMemory(t *testing.T) {
	m := of(1, 2, 3, 4, 5)
	want := slices.Clone(m.All())
	spoil := func(l []pair) {
		for i := range l {
			l[i] = pair{Key: -1, V: -1}
		}
		l = append(l, pair{Key: -2, V: -2})
		clear(l[:cap(l)])
	}
	a, b := m.All(), m.Between(2, 4)
	spoil(m.All())
	spoil(m.Between(1, 9))
	spoil(m.Between(2, 4))
	if !slices.Equal(a, want) || !slices.Equal(b, want[1:3]) || !slices.Equal(m.All(), want) {
		t.Error(a, b, m.All())
	}
	check(t, m, want, 0, 6)
}

func TestValuesAreKeptAsTheyAre(t *testing.T) {
	list := []int{1, 2, 3}
	m := order.Map[string, []int]{}.Put("k", list[:1])
	got, ok := m.Get("k")
	if !ok || len(got) != 1 || cap(got) != 3 || &got[0] != &list[0] {
		t.Error(got, ok)
	}
	list[0] = 9
	if p, _ := m.At(0); p.V[0] != 9 {
		t.Error(p)
	}
}

type name string

func TestKeysOfManyKinds(t *testing.T) {
	var words order.Map[name, int]
	for i, k := range []name{"b", "", "ab", "a", "\xff", "a\x00"} {
		words = words.Put(k, i)
	}
	var got []name
	for _, p := range words.All() {
		got = append(got, p.Key)
	}
	if !slices.Equal(got, []name{"", "a", "a\x00", "ab", "b", "\xff"}) {
		t.Error(got)
	}
	var small order.Map[uint8, string]
	for k := range 256 {
		small = small.Put(uint8(255-k), strconv.Itoa(255-k))
	}
	for k := range 256 {
		if v, ok := small.Get(uint8(k)); v != strconv.Itoa(k) || !ok || small.Rank(uint8(k)) != k {
			t.Error(k, v, ok)
		}
	}
	ends := order.Map[int64, int]{}.Put(math.MaxInt64, 1).Put(math.MinInt64, 2).Put(0, 3)
	if p, _ := ends.At(0); p.V != 2 || ends.Rank(math.MaxInt64) != 2 || len(ends.Between(math.MinInt64, math.MaxInt64)) != 2 {
		t.Error(ends.All())
	}
}

// What is no number has its place below all numbers, else it could be put in and never be found.
func TestKeysThatAreNoNumbers(t *testing.T) {
	nan, inf := math.NaN(), math.Inf(1)
	var m order.Map[float64, int]
	for i, k := range []float64{1, nan, -inf, nan, inf, 0, math.Copysign(0, -1)} {
		m = m.Put(k, i)
	}
	if m.Len() != 5 || m.Rank(nan) != 0 || m.Rank(-inf) != 1 || m.Rank(inf) != 4 {
		t.Error(m.All())
	}
	if v, ok := m.Get(nan); v != 3 || !ok {
		t.Error(v, ok)
	}
	if v, ok := m.Get(0); v != 6 || !ok {
		t.Error(v, ok)
	}
	if len(m.Between(nan, inf)) != 4 || len(m.Between(inf, nan)) != 0 || len(m.Between(nan, nan)) != 0 {
		t.Error(m.Between(nan, inf))
	}
	if m = m.Del(nan).Del(nan); m.Len() != 4 {
		t.Error(m.All())
	}
}
