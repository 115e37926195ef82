package disk_test

import (
	"math/rand"
	"slices"
	"strings"
	"testing"

	"decamp/api"
	"decamp/disk"
)

// model is the chapter's words, plainly: nothing of the package's own code is in it.
type model struct {
	room  int
	all   map[string]string
	safe  map[string]int
	fused bool
	fuse  int
	lost  bool
}

func newModel(room int) *model {
	return &model{room: room, all: map[string]string{}, safe: map[string]int{}}
}

func (m *model) clone() *model {
	c := *m
	c.all, c.safe = map[string]string{}, map[string]int{}
	for k, v := range m.all {
		c.all[k], c.safe[k] = v, m.safe[k]
	}
	return &c
}

func (m *model) used() int {
	n := 0
	for _, v := range m.all {
		n += len(v)
	}
	return n
}

func (m *model) names() []string {
	l := []string{}
	for k := range m.all {
		l = append(l, k)
	}
	slices.Sort(l)
	return l
}

func allowed(name string) bool {
	ok := len(name) > 0 && len(name) < 13
	for i := 0; i < len(name); i++ {
		ok = ok && name[i] >= 33 && name[i] <= 126
	}
	return ok
}

// refuse is the error that comes ahead of all that is the call's own.
func (m *model) refuse(names ...string) api.Errno {
	if m.lost {
		return api.ErrLost
	}
	for _, n := range names {
		if !allowed(n) {
			return api.ErrArg
		}
	}
	return api.OK
}

// missing is the same, of a call that wants the file of the first name.
func (m *model) missing(names ...string) api.Errno {
	e := m.refuse(names...)
	if _, ok := m.all[names[0]]; e == api.OK && !ok {
		e = api.ErrNone
	}
	return e
}

// goes tells whether the power goes at this deed.
func (m *model) goes() bool {
	if m.fused && m.fuse == 0 {
		m.lost, m.fused = true, false
		return true
	}
	m.fuse--
	return false
}

func (m *model) drop(name string) {
	delete(m.all, name)
	delete(m.safe, name)
}

func (m *model) append(name string, b []byte) api.Errno {
	if e := m.refuse(name); e != api.OK {
		return e
	}
	if m.used()+len(b) > m.room {
		return api.ErrFull
	}
	gone := m.goes()
	if len(b) > 0 {
		m.all[name] += string(b)
	}
	if gone {
		return api.ErrLost
	}
	return api.OK
}

func (m *model) sync(name string) api.Errno {
	if e := m.missing(name); e != api.OK {
		return e
	}
	if m.goes() {
		return api.ErrLost
	}
	m.safe[name] = len(m.all[name])
	return api.OK
}

func (m *model) cut(name string, n int) api.Errno {
	if e := m.missing(name); e != api.OK {
		return e
	}
	if n < 0 || n > len(m.all[name]) {
		return api.ErrArg
	}
	if m.goes() {
		return api.ErrLost
	}
	m.all[name], m.safe[name] = m.all[name][:n], n
	if n == 0 {
		m.drop(name)
	}
	return api.OK
}

func (m *model) rename(from, to string) api.Errno {
	if e := m.missing(from, to); e != api.OK {
		return e
	}
	if m.safe[from] != len(m.all[from]) {
		return api.ErrBusy
	}
	if m.goes() {
		return api.ErrLost
	}
	text := m.all[from]
	m.drop(from)
	m.all[to], m.safe[to] = text, len(text)
	return api.OK
}

func (m *model) remove(name string) api.Errno {
	if e := m.missing(name); e != api.OK {
		return e
	}
	if m.goes() {
		return api.ErrLost
	}
	m.drop(name)
	return api.OK
}

func (m *model) setFuse(n int) api.Errno {
	if e := m.refuse(); e != api.OK {
		return e
	}
	if n < 0 {
		return api.ErrArg
	}
	m.fused, m.fuse = true, n
	return api.OK
}

func (m *model) restart(keep ...int) {
	i := 0
	for _, name := range m.names() {
		wait := len(m.all[name]) - m.safe[name]
		if wait == 0 {
			continue
		}
		stay := 0
		if i < len(keep) {
			stay = keep[i] % (wait + 1)
		}
		if stay < 0 {
			stay += wait + 1
		}
		i++
		m.safe[name] += stay
		m.all[name] = m.all[name][:m.safe[name]]
		if m.all[name] == "" {
			m.drop(name)
		}
	}
	m.lost, m.fused = false, false
}

// same holds that a disk is as its model says, also in what can't be read of it while it is lost.
func same(t *testing.T, d *disk.Disk, m *model) {
	t.Helper()
	if d.Lost() != m.lost || d.Used() != m.used() || !slices.Equal(d.Names(), m.names()) {
		t.Fatalf("Lost %v, Used %d, Names %q, want %v, %d, %q", d.Lost(), d.Used(), d.Names(), m.lost, m.used(), m.names())
	}
	readable, keep := d, []int{}
	if m.lost {
		for _, name := range m.names() {
			if wait := len(m.all[name]) - m.safe[name]; wait > 0 {
				keep = append(keep, wait)
			}
		}
		readable = d.Clone()
		readable.Restart(keep...)
	}
	for _, name := range m.names() {
		if d.Safe(name) != m.safe[name] {
			t.Fatalf("Safe(%q): %d, want %d", name, d.Safe(name), m.safe[name])
		}
		if b, e := readable.Read(name); e != api.OK || string(b) != m.all[name] {
			t.Fatalf("Read(%q): %q, %v, want %q", name, b, e, m.all[name])
		}
	}
}

// pair is a disk and its model.
type pair struct {
	d *disk.Disk
	m *model
}

func newPair(t *testing.T, room int) pair {
	return pair{newDisk(t, room), newModel(room)}
}

// someName is mostly one of a few names, and now and then one that may not be.
func someName(r *rand.Rand) string {
	if r.Intn(20) == 0 {
		wrong := []string{"", "abcdefghijklm", "a b", "\x7f", "a\x00", "é"}
		return wrong[r.Intn(len(wrong))]
	}
	right := []string{"a", "b", "b+", "abcdefghijkl", "~", "!"}
	return right[r.Intn(len(right))]
}

// someBytes are up to five bytes, of any kind.
func someBytes(r *rand.Rand) []byte {
	b := make([]byte, r.Intn(6))
	r.Read(b)
	return b
}

// deed does one random deed to both, and answers what both answer to it.
func (p pair) deed(r *rand.Rand) (got, want api.Errno) {
	name, to := someName(r), someName(r)
	switch kind := r.Intn(16); {
	case kind < 7:
		b := someBytes(r)
		return p.d.Append(name, b), p.m.append(name, b)
	case kind < 11:
		return p.d.Sync(name), p.m.sync(name)
	case kind < 13:
		n := r.Intn(9) - 1
		return p.d.Cut(name, n), p.m.cut(name, n)
	case kind < 15:
		return p.d.Rename(name, to), p.m.rename(name, to)
	default:
		return p.d.Remove(name), p.m.remove(name)
	}
}

// restart restarts both, with some random numbers.
func (p pair) restart(r *rand.Rand) {
	keep := make([]int, r.Intn(5))
	for i := range keep {
		keep[i] = r.Intn(31) - 15
	}
	p.d.Restart(keep...)
	p.m.restart(keep...)
}

// turn does one random thing of any kind to both, and holds that both answer the same, and are the same behind it.
func (p pair) turn(t *testing.T, r *rand.Rand) {
	t.Helper()
	var got, want api.Errno
	switch kind := r.Intn(20); {
	case kind < 15:
		got, want = p.deed(r)
	case kind < 16:
		n := r.Intn(12) - 1
		got, want = p.d.Fuse(n), p.m.setFuse(n)
	case kind < 18:
		p.restart(r)
	default:
		name := someName(r)
		var b []byte
		b, got = p.d.Read(name)
		want = p.m.missing(name)
		if got != api.OK && len(b) > 0 {
			t.Fatalf("Read(%q): %q beside %v", name, b, got)
		}
	}
	if got != want {
		t.Fatalf("%v, want %v", got, want)
	}
	same(t, p.d, p.m)
}

// P5.1, P5.2: in random turns a disk is as the chapter's words say, and so are its clones, whichever goes on.
func TestRandomTurns(t *testing.T) {
	for seed := range int64(300) {
		r := rand.New(rand.NewSource(seed))
		l := []pair{newPair(t, r.Intn(40))}
		for range 200 {
			p := l[r.Intn(len(l))]
			p.turn(t, r)
			if r.Intn(60) == 0 {
				l = append(l, pair{p.d.Clone(), p.m.clone()})
			}
			for _, p := range l {
				same(t, p.d, p.m)
			}
		}
	}
}

// P5.3: wherever the power goes among random deeds, safe bytes stay, and what is there is a beginning of what was.
func TestRandomLosses(t *testing.T) {
	for seed := range int64(2000) {
		r := rand.New(rand.NewSource(seed))
		d := newDisk(t, 100)
		p := pair{d, newModel(100)}
		mustBe(t, api.OK, d.Fuse(r.Intn(30)))
		for range 60 {
			if !d.Lost() {
				p.deed(r)
			}
		}
		whole, safe := d.Clone(), map[string]int{}
		whole.Restart(-1, -1, -1, -1, -1, -1)
		for _, name := range d.Names() {
			safe[name] = d.Safe(name)
		}
		p.restart(r)
		for _, name := range whole.Names() {
			was, is := mustRead(t, whole, name), ""
			if slices.Contains(d.Names(), name) {
				is = mustRead(t, d, name)
			}
			if len(is) < safe[name] || !strings.HasPrefix(was, is) || d.Safe(name) != len(is) {
				t.Fatalf("seed %d: %q has %q of %q, of which %d were safe", seed, name, is, was, safe[name])
			}
		}
		for _, name := range d.Names() {
			if !slices.Contains(whole.Names(), name) {
				t.Fatalf("seed %d: %q is there, and wasn't", seed, name)
			}
		}
	}
}
