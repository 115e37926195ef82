package wal_test

import (
	"math/rand"
	"slices"
	"strconv"
	"testing"

	"decamp/api"
	"decamp/disk"
	"decamp/wal"
)

// whole are the records whose frames are whole within so many bytes of all frames.
func whole(records []string, size int) []string {
	n := 0
	for n < len(records) && len(framed(records[:n+1]...)) <= size {
		n++
	}
	return records[:n]
}

// goesOn holds that the log of a disk that was restarted has these records, and is none the worse for what it went through.
func goesOn(t *testing.T, d *disk.Disk, name string, want ...string) {
	t.Helper()
	l := opens(t, d, name, want...)
	mustBe(t, api.OK, l.Add(list("on", "")...))
	mustLen(t, l, len(want)+2)
	l = opens(t, d, name, append(slices.Clone(want), "on", "")...)
	// All of it is safe: a power that goes now takes nothing away.
	d.Restart()
	opens(t, d, name, append(slices.Clone(want), "on", "")...)
	mustBe(t, api.OK, l.Reset(list("off")...))
	d.Restart()
	l = opens(t, d, name, "off")
	mustBe(t, api.OK, l.Add(list("on")...))
	d.Restart()
	opens(t, d, name, "off", "on")
	if slices.Contains(d.Names(), name+"+") {
		t.Fatal("a file is left over behind a Reset")
	}
}

// P6.3: the power goes at each deed of an Add, and any number of the bytes that wait stay.
func TestAddLoses(t *testing.T) {
	for _, was := range [][]string{{}, {"a"}, {"b", "", "cd"}} {
		for _, more := range [][]string{{""}, {"e"}, {"fg", "", "hijkl", "m"}, {"", "", ""}, {framed("n"), "o"}} {
			for fuse := range 2 {
				for keep := range len(framed(more...)) + 1 {
					d := newDisk(t, 1000)
					lay(t, d, "f", framed(was...), "")
					l := opens(t, d, "f", was...)
					mustBe(t, api.OK, d.Fuse(fuse))
					mustBe(t, api.ErrLost, l.Add(list(more...)...))
					// Of what didn't answer OK it isn't known whether it is there.
					mustLen(t, l, len(was))
					has(t, d, file("f", framed(was...), framed(more...)))
					refuses(t, d, "f", api.ErrLost)
					d.Restart(keep)
					mustLen(t, l, len(was))
					goesOn(t, d, "f", append(slices.Clone(was), whole(more, keep)...)...)
				}
			}
		}
	}
}

// stage is how a disk's files are, as file tells them, while a Reset is under way, and what the log has when the power goes there.
type stage struct {
	files   []string
	records []string
}

// stages are those of a Reset, one for each deed at which the power may go, and the one behind them all.
func stages(was, plus, now []string) []stage {
	mine := func(l []string, files ...string) stage {
		if len(l) > 0 {
			files = append([]string{file("f", framed(l...), "")}, files...)
		}
		return stage{files, l}
	}
	l := []stage{}
	if plus[0]+plus[1] != "" {
		l = append(l, mine(was, file("f+", plus[0], plus[1])))
	}
	if len(now) > 0 {
		waits, safe := file("f+", "", framed(now...)), file("f+", framed(now...), "")
		return append(l, mine(was, waits), mine(was, waits), mine(was, safe), mine(now))
	}
	if len(was) > 0 {
		l = append(l, mine(was))
	}
	return append(l, mine(now))
}

// P6.3: the power goes at each deed of a Reset, and any number of the bytes that wait stay: there is all that was, or all that is to be.
func TestResetLoses(t *testing.T) {
	for _, c := range resets() {
		l := stages(c.was, c.plus, c.now)
		if len(l) != c.deeds+1 {
			t.Fatal("a deed is missing")
		}
		for fuse, s := range l {
			for keep := range max(len(c.plus[1]), len(framed(c.now...))) + 1 {
				d := newDisk(t, 1000)
				lay(t, d, "f", framed(c.was...), "")
				lay(t, d, "f+", c.plus[0], c.plus[1])
				g := opens(t, d, "f", c.was...)
				mustBe(t, api.OK, d.Fuse(fuse))
				e := g.Reset(list(c.now...)...)
				has(t, d, s.files...)
				if fuse == c.deeds {
					mustBe(t, api.OK, e)
					mustLen(t, g, len(c.now))
				} else {
					mustBe(t, api.ErrLost, e)
					mustLen(t, g, len(c.was))
					refuses(t, d, "f", api.ErrLost)
				}
				d.Restart(keep)
				goesOn(t, d, "f", s.records...)
			}
		}
	}
}

// P6.3: a Reset behind one that the power cut short, over and over, and in the end one that isn't.
func TestResetLosesAgain(t *testing.T) {
	for first := range 4 {
		for second := range 5 {
			for third := range 5 {
				d := newDisk(t, 1000)
				lay(t, d, "f", framed("a", "b"), "")
				want, now := []string{"a", "b"}, []string{}
				for i, fuse := range []int{first, second, third, 9} {
					l := opens(t, d, "f", want...)
					now = append(now, strconv.Itoa(i))
					mustBe(t, api.OK, d.Fuse(fuse))
					if l.Reset(list(now...)...) == api.OK {
						want = slices.Clone(now)
					}
					d.Restart(5 * i)
				}
				if len(want) != 4 {
					t.Fatalf("%q at last", want)
				}
				goesOn(t, d, "f", want...)
			}
		}
	}
}

// P6.3: the power goes while a log is opened that has something behind its records, and it is opened again.
func TestOpenLoses(t *testing.T) {
	for _, was := range [][]string{{}, {"a"}, {"b", "", "cd"}} {
		for _, behind := range []string{"x", framed("efg")[:9], framed("efg")[:10] + "-"} {
			d := newDisk(t, 1000)
			lay(t, d, "f", framed(was...)+behind, "")
			for range 3 {
				mustBe(t, api.OK, d.Fuse(0))
				refuses(t, d, "f", api.ErrLost)
				has(t, d, file("f", framed(was...)+behind, ""))
				d.Restart()
			}
			goesOn(t, d, "f", was...)
		}
	}
}

// tried is a log that goes through random turns: what it has, all of it safe.
type tried struct {
	log  *wal.Log
	name string
	has  []string
}

// someRecords are up to four random records.
func someRecords(r *rand.Rand) []string {
	l := make([]string, r.Intn(5))
	for i := range l {
		b := make([]byte, r.Intn(12))
		r.Read(b)
		l[i] = string(b)
	}
	return l
}

// turn does a random call, and answers its error, and all that the log may have behind it.
func (g *tried) turn(r *rand.Rand) (api.Errno, [][]string) {
	l := someRecords(r)
	may := [][]string{g.has}
	var e api.Errno
	if r.Intn(4) > 0 {
		e = g.log.Add(list(l...)...)
		for n := range l {
			may = append(may, append(slices.Clone(g.has), l[:n+1]...))
		}
	} else {
		e = g.log.Reset(list(l...)...)
		may = append(may, l)
	}
	if e == api.OK {
		return e, may[len(may)-1:]
	}
	if e == api.ErrFull {
		return e, may[:1]
	}
	return e, may
}

// open opens the log anew, and takes what it has, if that may be.
func (g *tried) open(t *testing.T, d *disk.Disk, may [][]string) {
	t.Helper()
	l, got, e := wal.Open(d, g.name)
	mustBe(t, api.OK, e)
	is := texts(got)
	if !slices.ContainsFunc(may, func(m []string) bool { return slices.Equal(m, is) }) {
		t.Fatalf("it has %q, and may have %q", is, may)
	}
	mustLen(t, l, len(is))
	g.log, g.has = l, is
}

// P6.1, P6.2, P6.3: two logs in random turns on a disk of little room, with the power going now and then.
func TestRandomTurns(t *testing.T) {
	full, lost := 0, 0
	for seed := range int64(500) {
		r := rand.New(rand.NewSource(seed))
		d := newDisk(t, 150+r.Intn(400))
		logs := []*tried{{name: "f"}, {name: "abcdefghijk"}}
		for _, g := range logs {
			g.open(t, d, [][]string{{}})
		}
		for range 60 {
			if r.Intn(8) == 0 {
				mustBe(t, api.OK, d.Fuse(r.Intn(6)))
			}
			g, other := logs[0], logs[1]
			if r.Intn(2) == 0 {
				g, other = other, g
			}
			was := g.log.Len()
			e, may := g.turn(r)
			switch {
			case e == api.OK:
				g.has = may[0]
				mustLen(t, g.log, len(g.has))
			case e == api.ErrFull:
				full++
				mustLen(t, g.log, was)
			default:
				mustBe(t, api.ErrLost, e)
				mustLen(t, g.log, was)
				lost++
				d.Restart(r.Intn(200), r.Intn(200))
				g.open(t, d, may)
				other.open(t, d, [][]string{other.has})
			}
			if r.Intn(10) == 0 {
				// What was there ahead of a call stays, wherever the power goes between calls.
				d.Restart()
				g.open(t, d, [][]string{g.has})
				other.open(t, d, [][]string{other.has})
			}
		}
	}
	if full < 100 || lost < 1000 {
		t.Errorf("%d times full, %d lost: too few to tell", full, lost)
	}
}
